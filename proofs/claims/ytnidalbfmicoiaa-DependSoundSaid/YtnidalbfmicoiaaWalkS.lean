/- Contracts of the reference's Valid, Follows, and of slices.Equal, same. -/
import Derived.Test.YtnidalbfmicoiaaWalkR
import Derived.Test.YtnidalbfmicoiaaWalkX
namespace Go.Proofs.Ytnidalbfmicoiaa
open Go.RowKit

/-- the reference's valid arguments are those of the program, without further sets -/
theorem validR_any (n : Int) (l : List (Int × Int)) (v : Value) (w : World) (hv : Deps w v l) :
    Calls Try.prog 27 #[.int .i64 n, v] w fun e w' => e = .returned (.bool (decide (ValidP n l []))) ∧ Below w.heap.size w w' := by
  obtain ⟨a, b, off, cap, rfl, hle, ha, hc⟩ := Deps.get hv
  have hix := run_ix (P := Try.prog) (t := 22) (a := a) (len := l.length) (cap := cap) (b := b) (off := off) (s := 2) Try.underlying22 (by intro w; kernel_rfl) ha
  clear ha hv
  by_cases hn : 1 ≤ n ∧ n ≤ 8 ∧ l.length ≤ 12
  · obtain ⟨h1, h2, h3⟩ := hn
    obtain ⟨m, rfl⟩ := Int.eq_ofNat_of_zero_le (show 0 ≤ n by omega)
    have hm8 : m ≤ 8 := by omega
    have Hc := Lib.hid hc
    clear hc
    go_enter Try.func27, Try.ntmps27
    go_wp2
    go_loopw [20] (fun i wr => ∃ k : Nat, i = .int .i64 k ∧ k ≤ l.length ∧ Below w.heap.size w wr ∧ AllTo (fun d : Int × Int => InSet m d.1 ∧ InSet m d.2) l k) (fun i _ => l.length - (intOf i).toNat)
    case atStart => exact ⟨0, rfl, Nat.zero_le _, Below.refl _ _, fun i _ h => by omega⟩
    case round =>
      obtain ⟨k, rfl, hk, hb, hin⟩ := hrel
      have Hin := Lib.hid hin
      clear hin
      by_cases hlt : k < l.length
      · have hc1 := Below.keep hb (Hc.out k hlt).1
        have hc2 := Below.keep hb (Hc.out k hlt).2
        go_wp2_with fail
        refine (pairR_any m _ _ hm8 _).mono ?_
        rintro e w1 ⟨rfl, hb1⟩
        have Hb1 := Lib.hid (Below.trans (hb.alloc hb.size _) (hb1.mono (by have := hb.size; simp; omega)))
        clear hb1
        go_wp2
        · have h : (!decide (InSet (m : Int) l[k].1)) = true ∨ (!decide (InSet (m : Int) l[k].2)) = true := by assumption
          have R : decide (ValidP m l []) = false := decide_eq_false fun hv => by have := hv.2.1 _ (List.getElem_mem hlt); simp [this] at h
          go_ret
          exact ⟨congrArg (fun b => Ending.returned (.bool b)) R.symm, Hb1.out⟩
        · have h : (!decide (InSet (m : Int) l[k].1)) = false ∧ (!decide (InSet (m : Int) l[k].2)) = false := by assumption
          have R := Hin.out.step hlt (by simpa using h)
          go_roundw
          case rel => exact ⟨k + 1, by go_num, by omega, Hb1.out, R⟩
          case measure => simp [intOf]; omega
      · obtain rfl : k = l.length := by omega
        have R : decide (ValidP m l []) = true := decide_eq_true ⟨⟨h1, h2, h3⟩, Hin.out.all, fun x hx => by simp at hx⟩
        go_wp2
        go_ret
        exact ⟨congrArg (fun b => Ending.returned (.bool b)) R.symm, hb⟩
  · have R : decide (ValidP n l []) = false := decide_eq_false fun hv => hn hv.1
    have HR := Lib.hid R
    clear R hc
    have q : n < 1 ∨ (1 ≤ n ∧ 8 < n) ∨ (1 ≤ n ∧ n ≤ 8 ∧ (12 : Int) < (l.length : Int)) := by omega
    clear hn
    rcases q with q | ⟨q1, q⟩ | ⟨q1, q2, q⟩
    all_goals
      go_enter Try.func27, Try.ntmps27
      go_wp2
      go_ret
      exact ⟨congrArg (fun b => Ending.returned (.bool b)) HR.out.symm, Below.refl _ _⟩

theorem followsR_any {l : List DepN} (hl : AllLt l 256) (s t : Nat) (hs : s < 256) (ht : t < 256) (v : Value) (w : World) (hv : Deps w v (castD l)) :
    Calls Try.prog 31 #[v, .agg #[.int .i64 s, .int .i64 t]] w fun e w' => e = .returned (.bool (decide (Sub t (cl l s)))) ∧ Below w.heap.size w w' := by
  have Hv := Lib.hid hv
  obtain ⟨a, b, off, cap, hva, -⟩ := Deps.get hv
  subst hva
  clear hv
  have t1 := test_sub t (cl l s) (by omega) (by have := cl_lt l s; omega)
  have hb0 := below_alloc w (.cells #[.int .i64 s, .int .i64 t] 24)
  have c0 := cell_new w #[.int .i64 s, .int .i64 t] 24 0
  have c1 := cell_new w #[.int .i64 s, .int .i64 t] 24 1
  have hz : (w.alloc (.cells #[.int .i64 (s : Int), .int .i64 (t : Int)] 24)).heap.size = w.heap.size + 1 := by simp
  go_enter Try.func31, Try.ntmps31
  go_wp2_with fail
  generalize w.alloc (.cells #[.int .i64 (s : Int), .int .i64 (t : Int)] 24) = w0 at *
  have Hb0 := Lib.hid hb0
  have Hz := Lib.hid hz
  clear hb0 hz
  go_region_held3 (fun w' => w'.cell? ⟨w.heap.size, 0, none⟩ = some (.int .i64 s) ∧ w'.cell? ⟨w.heap.size, 1, none⟩ = some (.int .i64 t) ∧ Below w0.heap.size w0 w')
    (first | exact ⟨c0, c1, (Below.refl _ _).drew⟩ | exact hold2 c0 c1 (Below.tr (Below.refl _ _).drew hb2) | (trace_state; fail))
    (first | (go_at_call 29; refine (closureR_any l hl s hs _ _ (by exact Deps.keep Hv.out (Below.tr Hb0.out (Below.refl _ _).drew))).mono ?_; rintro e w' ⟨rfl, hb2⟩))
  go_wp2_with fail
  go_ret
  exact ⟨rfl, Below.tr Hb0.out (Below.tr (Below.refl _ _).drew hb2)⟩

/-- slices.Equal on ints: whether two slices read the same -/
theorem decide_ne {α : Type} [DecidableEq α] {a b : α} (h : a ≠ b) : decide (a = b) = false := decide_eq_false h
theorem equal_any (x y : List Int) (v u : Value) (w : World) (hv : Ints w v x) (hu : Ints w u y) :
    Calls Try.prog 41 #[v, u] w fun e w' => e = .returned (.bool (decide (x = y))) ∧ Below w.heap.size w w' := by
  obtain ⟨a, b, off, cap, rfl, hle, ha, hc⟩ := Ints.get hv
  obtain ⟨a', b', off', cap', rfl, hle', ha', hc'⟩ := Ints.get hu
  have hix := run_ix (P := Try.prog) (t := 56) (a := a) (len := x.length) (cap := cap) (b := b) (off := off) (s := 1) Try.underlying56 (by intro w; kernel_rfl) ha
  have hix' := run_ix (P := Try.prog) (t := 56) (a := a') (len := y.length) (cap := cap') (b := b') (off := off') (s := 1) Try.underlying56 (by intro w; kernel_rfl) ha'
  simp only [Nat.mul_one] at hix hix'
  clear ha ha' hv hu
  by_cases hxy : x.length = y.length
  · rw [← hxy] at hix' hle' ⊢
    have Hxy := Lib.hid hxy
    clear hxy
    have Hc := Lib.hid hc
    have Hc' := Lib.hid hc'
    clear hc hc'
    go_enter Try.func41, Try.ntmps41
    go_wp2
    go_loopw [13] (fun i wr => ∃ k : Nat, i = .int .i64 k ∧ k ≤ x.length ∧ Below w.heap.size w wr ∧ (∀ j (h : j < x.length) (h' : j < y.length), j < k → x[j] = y[j])) (fun i _ => x.length - (intOf i).toNat)
    case atStart => exact ⟨0, rfl, Nat.zero_le _, Below.refl _ _, fun i _ _ h => by omega⟩
    case round =>
      obtain ⟨k, rfl, hk, hb, hin⟩ := hrel
      have Hin := Lib.hid hin
      clear hin
      by_cases hlt : k < x.length
      · have hlt' : k < y.length := by have := Hxy.out; omega
        have hc1 := Below.keep hb (Hc.out k hlt)
        have hc2 := Below.keep hb (Hc'.out k hlt')
        by_cases he : x[k] = y[k]
        · have R : ∀ j (h : j < x.length) (h' : j < y.length), j < k + 1 → x[j] = y[j] := fun j h h' hj => by
            by_cases e : j = k
            · subst e; exact he
            · exact Hin.out j h h' (by omega)
          have R := Lib.hid R
          go_wp2_with fail
          go_quiet (fail)
          go_wp2_with fail
          go_roundw
          case rel => exact ⟨k + 1, by go_num, by omega, bdrewN hb _, R.out⟩
          case measure => simp [intOf]; omega
        · have R : decide (x = y) = false := decide_ne fun h => he (by subst h; rfl)
          have R := Lib.hid R
          go_wp2_with fail
          go_quiet (fail)
          go_wp2_with fail
          go_ret
          exact ⟨congrArg (fun b => Ending.returned (.bool b)) R.out.symm, bdrewN hb _⟩
      · obtain rfl : k = x.length := by omega
        have R : decide (x = y) = true := decide_eq_true (List.ext_getElem Hxy.out fun j h h' => Hin.out j h h' h)
        go_wp2
        go_ret
        exact ⟨congrArg (fun b => Ending.returned (.bool b)) R.symm, hb⟩
  · have R : decide (x = y) = false := decide_ne fun h => hxy (by rw [h])
    have R := Lib.hid R
    clear hc hc'
    go_enter Try.func41, Try.ntmps41
    go_wp2
    go_ret
    exact ⟨congrArg (fun b => Ending.returned (.bool b)) R.out.symm, Below.refl _ _⟩
end Go.Proofs.Ytnidalbfmicoiaa
