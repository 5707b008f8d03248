/- Contracts of own, slices.Equal on dependencies. -/
import Derived.Test.YtnidalbfmicoiaaWalkS
namespace Go.Proofs.Ytnidalbfmicoiaa
open Go.RowKit

theorem info24 : (Try.prog.info? 24).map (fun i => (i.zero, i.size, i.bytes)) = some (some (.agg #[.int .i64 0, .int .i64 0]), 2, 16) := by kernel_rfl
theorem elem22 : Elem Try.prog 22 24 2 16 := elem_of Try.underlying22 info24 rfl (by omega) (by omega)

set_option maxRecDepth 100000 in
theorem own_any (l : List (Int × Int)) (hl : l.length ≤ 1000) (v : Value) (w : World) (hv : Deps w v l) :
    Calls Try.prog 44 #[v] w fun e w' => ∃ v', e = .returned v' ∧ Deps w' v' l ∧ Below w.heap.size w w' := by
  obtain ⟨a, b, off, cap, rfl, hle, ha, hc⟩ := Deps.get hv
  have hix := run_ix (P := Try.prog) (t := 28) (a := a) (len := l.length) (cap := cap) (b := b) (off := off) (s := 2) Try.underlying28 (by intro w; kernel_rfl) ha
  have Hc := Lib.hid hc
  clear ha hv hc
  go_enter Try.func44, Try.ntmps44
  go_wp2
  go_loopw [3, 8] (fun o i wr => ∃ k : Nat, i = .int .i64 k ∧ k ≤ l.length ∧ Below w.heap.size w wr ∧ wr.ownsRow w.heap.size 24 2 o k (pairCells (l.take k))) (fun _ i _ => l.length - (intOf i).toNat)
  case atStart => exact ⟨0, rfl, Nat.zero_le _, Below.refl _ _, World.ownsRow_nil _ _ _ _⟩
  case round =>
    obtain ⟨k, rfl, hk, hb, hown⟩ := hrel
    have Hown := Lib.hid hown
    clear hown
    by_cases hlt : k < l.length
    · have hc1 := Below.keep hb (Hc.out k hlt).1
      have hc2 := Below.keep hb (Hc.out k hlt).2
      go_wp2_with (at_builtin; refine append_own rfl (.tmp 12) (.tmp 18) 22 rfl elem22 rfl ((Hown.out.alloc _).alloc _) [.int .i64 l[k].1, .int .i64 l[k].2] rfl rfl ?c1 ?c2 ?c3 ?c4 ?_)
      case c1 => intro j u hj; go_simp
      case c2 => intro u hu; simp at hu; rcases hu with rfl | rfl <;> rfl
      case c3 => omega
      case c4 => simp; have := hb.size; omega
      intro v' w' h1 h2 _
      have R := pairCells_step l k hlt
      have hb2 : Below w.heap.size w w' := ((hb.alloc hb.size _).alloc (by have := hb.size; simp; omega) _).trans h2
      rw [← R] at h1
      have H1 := Lib.hid h1
      clear R h1 h2
      go_wp2
      go_roundw
      case rel => exact ⟨k + 1, by go_num, by omega, hb2, H1.out⟩
      case measure => simp [intOf]; omega
    · obtain rfl : k = l.length := by omega
      have H := owns_rd Hown.out
      have HF : Deps wr u3 l := by unfold Deps; simpa using H
      have HF := Lib.hid HF
      clear H
      go_wp2
      go_ret
      exact ⟨_, rfl, HF.out, hb⟩

theorem equalDep_any (x y : List (Int × Int)) (v u : Value) (w : World) (hv : Deps w v x) (hu : Deps w u y) :
    Calls Try.prog 43 #[v, u] w fun e w' => e = .returned (.bool (decide (x = y))) ∧ Below w.heap.size w w' := by
  obtain ⟨a, b, off, cap, rfl, hle, ha, hc⟩ := Deps.get hv
  obtain ⟨a', b', off', cap', rfl, hle', ha', hc'⟩ := Deps.get hu
  have hix := run_ix (P := Try.prog) (t := 22) (a := a) (len := x.length) (cap := cap) (b := b) (off := off) (s := 2) Try.underlying22 (by intro w; kernel_rfl) ha
  have hix' := run_ix (P := Try.prog) (t := 22) (a := a') (len := y.length) (cap := cap') (b := b') (off := off') (s := 2) Try.underlying22 (by intro w; kernel_rfl) ha'
  clear ha ha' hv hu
  by_cases hxy : x.length = y.length
  · rw [← hxy] at hix' hle' ⊢
    have Hxy := Lib.hid hxy
    clear hxy
    have Hc := Lib.hid hc
    have Hc' := Lib.hid hc'
    clear hc hc'
    go_enter Try.func43, Try.ntmps43
    go_wp2
    go_loopw [13] (fun i wr => ∃ k : Nat, i = .int .i64 k ∧ k ≤ x.length ∧ Below w.heap.size w wr ∧ (∀ j (h : j < x.length) (h' : j < y.length), j < k → x[j] = y[j])) (fun i _ => x.length - (intOf i).toNat)
    case atStart => exact ⟨0, rfl, Nat.zero_le _, Below.refl _ _, fun i _ _ h => by omega⟩
    case round =>
      obtain ⟨k, rfl, hk, hb, hin⟩ := hrel
      have Hin := Lib.hid hin
      clear hin
      by_cases hlt : k < x.length
      · have hlt' : k < y.length := by have := Hxy.out; omega
        have hc1 := Below.keep hb (Hc.out k hlt).1
        have hc2 := Below.keep hb (Hc'.out k hlt').1
        have hc3 := Below.keep hb (Hc.out k hlt).2
        have hc4 := Below.keep hb (Hc'.out k hlt').2
        by_cases he : x[k].1 = y[k].1 ∧ x[k].2 = y[k].2
        · have R : ∀ j (h : j < x.length) (h' : j < y.length), j < k + 1 → x[j] = y[j] := fun j h h' hj => by
            by_cases e : j = k
            · subst e; exact Prod.ext he.1 he.2
            · exact Hin.out j h h' (by omega)
          have R := Lib.hid R
          rw [he.1] at hc1
          rw [he.2] at hc3
          go_wp2_with fail
          go_quiet (fail)
          go_wp2_with fail
          go_roundw
          case rel => exact ⟨k + 1, by go_num, by omega, bdrewN hb _, R.out⟩
          case measure => simp [intOf]; omega
        · have R : decide (x = y) = false := decide_ne fun h => he (by subst h; exact ⟨rfl, rfl⟩)
          have R := Lib.hid R
          by_cases h1 : x[k].1 = y[k].1
          · have h2 : (x[k].2 == y[k].2) = false := by simp; exact fun h => he ⟨h1, h⟩
            have h3 : ¬ x[k].2 = y[k].2 := fun h => he ⟨h1, h⟩
            rw [h1] at hc1
            clear h1 he
            go_wp2_with fail
            go_quiet (fail)
            go_wp2_with fail
            go_ret
            exact ⟨congrArg (fun b => Ending.returned (.bool b)) R.out.symm, bdrewN hb _⟩
          · have h2 : (x[k].1 == y[k].1) = false := by simp; exact h1
            clear he
            go_wp2_with fail
            go_quiet (fail)
            go_wp2_with fail
            go_ret
            exact ⟨congrArg (fun b => Ending.returned (.bool b)) R.out.symm, bdrewN hb _⟩
      · obtain rfl : k = x.length := by omega
        have R : decide (x = y) = true := decide_eq_true (List.ext_getElem Hxy.out fun j h h' => Hin.out j h h' h)
        go_wp2
        go_ret
        exact ⟨congrArg (fun b => Ending.returned (.bool b)) R.symm, hb⟩
  · have R : decide (x = y) = false := decide_ne fun h => hxy (by rw [h])
    have R := Lib.hid R
    clear hc hc'
    go_enter Try.func43, Try.ntmps43
    go_wp2
    go_ret
    exact ⟨congrArg (fun b => Ending.returned (.bool b)) R.out.symm, Below.refl _ _⟩
end Go.Proofs.Ytnidalbfmicoiaa
