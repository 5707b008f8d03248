/- Contracts of best (over cliques, over independent sets), Clique, Independent. -/
import Derived.Test.YtkjpbjbheocciaaGf
namespace Go.Proofs.Ytkjpbjbheocciaa
open Go.RowKit

theorem isIndependent_b {g : List Nat} (hg : Gr g) (s : Nat) (b : Bool) (h : decide (Indep g s) = b) (hs : s < 4096) (v : Value) (w : World) (hv : Ints w v (castN g)) :
    Calls Try.prog 85 #[v, .int .i64 s] w fun e w' => e = .returned (.bool b) ∧ w = w' := by
  subst h; exact isIndependent_any hg s hs v w hv
/-- a greatest clique, a greatest independent set -/
def isC (g : List Nat) (s : Nat) : Bool := decide (Cliq g s)
def isI (g : List Nat) (s : Nat) : Bool := decide (Indep g s)
theorem best_hit {p : Nat → Bool} {k : Nat} (h1 : pop (bestTo p k) < pop k) (h2 : p k = true) : bestTo p (k + 1) = k := by rw [bestTo, if_pos ⟨h1, h2⟩]
theorem best_miss {p : Nat → Bool} {k : Nat} (h : ¬ (pop (bestTo p k) < pop k ∧ p k = true)) : bestTo p (k + 1) = bestTo p k := by rw [bestTo, if_neg h]
theorem pop_le (s : Nat) : pop s ≤ 64 := by rw [pop_cnt]; exact cnt_le _ _
theorem best_F {p : Nat → Bool} {k : Nat} (h : k ≤ 4096) (h1 : 1 ≤ k) : bestTo p k < 4096 := by have := bestTo_lt p k (by omega); omega

set_option maxRecDepth 100000 in
set_option maxHeartbeats 4000000 in
theorem best_clique {g : List Nat} (hg : Gr g) (v : Value) (w : World) (hv : Ints w v (castN g)) :
    Calls Try.prog 79 #[v, .func (.func 73) #[v] #[]] w fun e w' => e = .returned (.int .i64 (bestTo (isC g) (2 ^ g.length) : Nat)) ∧ w = w' := by
  obtain ⟨a, c, rfl⟩ := ints_slice hv
  rw [castN_length] at hv ⊢
  have Hv := Lib.hid hv
  have HG := Lib.hid hg
  have hn12 := hg.le
  obtain ⟨F, hF, f1, f2, f3⟩ := pow_name g.length hn12
  rw [← hF]
  have HF := Lib.hid hF
  have hF1 : ((F - 1 : Nat) : Int) + 1 = (F : Int) := by omega
  clear hv hg hF
  go_enter Try.func79, Try.ntmps79
  go_wp2_with fail
  refine (all_g _ _ _ F (by omega) HF.out _).mono ?_
  rintro e w' ⟨rfl, rfl⟩
  go_wp2_with fail
  clear hF1
  go_loopw [5, 10] (fun m i wr => ∃ k M : Nat, i = .int .i64 k ∧ m = .int .i64 M ∧ k ≤ F ∧ wr = w ∧ M = bestTo (isC g) k) (fun _ i _ => F - (intOf i).toNat)
  case atStart => exact ⟨0, 0, rfl, rfl, Nat.zero_le _, rfl, rfl⟩
  case round =>
    obtain ⟨k, M, rfl, rfl, hk, hwr, hM⟩ := hrel
    subst hwr
    have hMk : M ≤ k := by rw [hM]; exact bestTo_le _ _
    have HM := Lib.hid hM
    clear hM
    by_cases hlt : k < F
    · have hk4 : k < 4096 := by omega
      have hM4 : M < 4096 := by omega
      have hp1 := pop_le k
      have hp2 := pop_le M
      obtain ⟨x, hx⟩ : ∃ x, x = pop k := ⟨_, rfl⟩
      obtain ⟨y, hy⟩ : ∃ y, y = pop M := ⟨_, rfl⟩
      rw [← hx] at hp1
      rw [← hy] at hp2
      have Hx := Lib.hid (fun w => (hx ▸ ones_any k hk4 w : Calls Try.prog 82 #[.int .u64 k] w fun e w' => e = .returned (.int .i64 x) ∧ w = w'))
      have Hy := Lib.hid (fun w => (hy ▸ ones_any M hM4 w : Calls Try.prog 82 #[.int .u64 M] w fun e w' => e = .returned (.int .i64 y) ∧ w = w'))
      by_cases hpop : y < x
      · have hpop2 : pop (bestTo (isC g) k) < pop k := by rw [← HM.out, ← hx, ← hy]; exact hpop
        cases hq : isC g k with
        | true =>
          have R := Lib.hid (best_hit hpop2 hq).symm
          have Hq := Lib.hid (show decide (Cliq g k) = true from hq)
          clear hx hy hq hpop2
          go_wp2_with fail
          refine (Hx.out _).mono ?_
          rintro e w' ⟨rfl, rfl⟩
          go_wp2_with fail
          refine (Hy.out _).mono ?_
          rintro e w' ⟨rfl, rfl⟩
          go_wp2_with fail
          refine (isClique_b HG.out k true Hq.out hk4 _ _ Hv.out).mono ?_
          rintro e w' ⟨rfl, rfl⟩
          go_wp2_with fail
          go_roundw
          case rel => exact ⟨k + 1, k, by go_num, rfl, by omega, trivial, R.out⟩
          case measure => simp [intOf]; omega
        | false =>
          have R := Lib.hid (show M = bestTo (isC g) (k + 1) by rw [best_miss (fun h => by rw [hq] at h; simp at h)]; exact HM.out)
          have Hq := Lib.hid (show decide (Cliq g k) = false from hq)
          clear hx hy hq hpop2
          go_wp2_with fail
          refine (Hx.out _).mono ?_
          rintro e w' ⟨rfl, rfl⟩
          go_wp2_with fail
          refine (Hy.out _).mono ?_
          rintro e w' ⟨rfl, rfl⟩
          go_wp2_with fail
          refine (isClique_b HG.out k false Hq.out hk4 _ _ Hv.out).mono ?_
          rintro e w' ⟨rfl, rfl⟩
          go_wp2_with fail
          go_roundw
          case rel => exact ⟨k + 1, M, by go_num, rfl, by omega, trivial, R.out⟩
          case measure => simp [intOf]; omega
      · have R := Lib.hid (show M = bestTo (isC g) (k + 1) by rw [best_miss (fun h => hpop (by have := h.1; rwa [← HM.out, ← hx, ← hy] at this))]; exact HM.out)
        clear hx hy
        go_wp2_with fail
        refine (Hx.out _).mono ?_
        rintro e w' ⟨rfl, rfl⟩
        go_wp2_with fail
        refine (Hy.out _).mono ?_
        rintro e w' ⟨rfl, rfl⟩
        go_wp2_with fail
        go_roundw
        case rel => exact ⟨k + 1, M, by go_num, rfl, by omega, trivial, R.out⟩
        case measure => simp [intOf]; omega
    · obtain rfl : k = F := by omega
      go_wp2_with fail
      go_ret
      exact ⟨by rw [← HM.out]; rfl, rfl⟩
theorem clique_bad {l : List Int} (h : ¬ GrI l) (v : Value) (w : World) (hv : Ints w v l) :
    Calls Try.prog 30 #[v] w fun e w' => e = .returned (.tuple #[.int .i64 0, .int .i64 2]) ∧ w = w' := by
  have H := Lib.hid (valid_b (decide_eq_false h) v w hv)
  clear h hv
  go_enter Try.func30, Try.ntmps30
  go_wp2_with fail
  refine H.out.mono ?_
  rintro e w1 ⟨rfl, rfl⟩
  go_wp2_with fail
  go_ret2
  exact ⟨rfl, rfl⟩
theorem clique_any {g : List Nat} (hg : Gr g) (v : Value) (w : World) (hv : Ints w v (castN g)) :
    Calls Try.prog 30 #[v] w fun e w' => e = .returned (.tuple #[.int .i64 (bestTo (isC g) (2 ^ g.length) : Nat), .int .i64 0]) ∧ w = w' := by
  have H := Lib.hid (valid_b (decide_eq_true (grI_of hg)) v w hv)
  have H2 := Lib.hid (best_clique hg v w hv)
  clear hv hg
  generalize bestTo (isC g) (2 ^ g.length) = r at *
  go_enter Try.func30, Try.ntmps30
  go_wp2_with fail
  refine H.out.mono ?_
  rintro e w1 ⟨rfl, rfl⟩
  go_wp2_with fail
  refine H2.out.mono ?_
  rintro e w1 ⟨rfl, rfl⟩
  go_wp2_with fail
  go_ret2
  exact ⟨rfl, rfl⟩

set_option maxRecDepth 100000 in
set_option maxHeartbeats 4000000 in
theorem best_indep {g : List Nat} (hg : Gr g) (v : Value) (w : World) (hv : Ints w v (castN g)) :
    Calls Try.prog 79 #[v, .func (.func 85) #[v] #[]] w fun e w' => e = .returned (.int .i64 (bestTo (isI g) (2 ^ g.length) : Nat)) ∧ w = w' := by
  obtain ⟨a, c, rfl⟩ := ints_slice hv
  rw [castN_length] at hv ⊢
  have Hv := Lib.hid hv
  have HG := Lib.hid hg
  have hn12 := hg.le
  obtain ⟨F, hF, f1, f2, f3⟩ := pow_name g.length hn12
  rw [← hF]
  have HF := Lib.hid hF
  have hF1 : ((F - 1 : Nat) : Int) + 1 = (F : Int) := by omega
  clear hv hg hF
  go_enter Try.func79, Try.ntmps79
  go_wp2_with fail
  refine (all_g _ _ _ F (by omega) HF.out _).mono ?_
  rintro e w' ⟨rfl, rfl⟩
  go_wp2_with fail
  clear hF1
  go_loopw [5, 10] (fun m i wr => ∃ k M : Nat, i = .int .i64 k ∧ m = .int .i64 M ∧ k ≤ F ∧ wr = w ∧ M = bestTo (isI g) k) (fun _ i _ => F - (intOf i).toNat)
  case atStart => exact ⟨0, 0, rfl, rfl, Nat.zero_le _, rfl, rfl⟩
  case round =>
    obtain ⟨k, M, rfl, rfl, hk, hwr, hM⟩ := hrel
    subst hwr
    have hMk : M ≤ k := by rw [hM]; exact bestTo_le _ _
    have HM := Lib.hid hM
    clear hM
    by_cases hlt : k < F
    · have hk4 : k < 4096 := by omega
      have hM4 : M < 4096 := by omega
      have hp1 := pop_le k
      have hp2 := pop_le M
      obtain ⟨x, hx⟩ : ∃ x, x = pop k := ⟨_, rfl⟩
      obtain ⟨y, hy⟩ : ∃ y, y = pop M := ⟨_, rfl⟩
      rw [← hx] at hp1
      rw [← hy] at hp2
      have Hx := Lib.hid (fun w => (hx ▸ ones_any k hk4 w : Calls Try.prog 82 #[.int .u64 k] w fun e w' => e = .returned (.int .i64 x) ∧ w = w'))
      have Hy := Lib.hid (fun w => (hy ▸ ones_any M hM4 w : Calls Try.prog 82 #[.int .u64 M] w fun e w' => e = .returned (.int .i64 y) ∧ w = w'))
      by_cases hpop : y < x
      · have hpop2 : pop (bestTo (isI g) k) < pop k := by rw [← HM.out, ← hx, ← hy]; exact hpop
        cases hq : isI g k with
        | true =>
          have R := Lib.hid (best_hit hpop2 hq).symm
          have Hq := Lib.hid (show decide (Indep g k) = true from hq)
          clear hx hy hq hpop2
          go_wp2_with fail
          refine (Hx.out _).mono ?_
          rintro e w' ⟨rfl, rfl⟩
          go_wp2_with fail
          refine (Hy.out _).mono ?_
          rintro e w' ⟨rfl, rfl⟩
          go_wp2_with fail
          refine (isIndependent_b HG.out k true Hq.out hk4 _ _ Hv.out).mono ?_
          rintro e w' ⟨rfl, rfl⟩
          go_wp2_with fail
          go_roundw
          case rel => exact ⟨k + 1, k, by go_num, rfl, by omega, trivial, R.out⟩
          case measure => simp [intOf]; omega
        | false =>
          have R := Lib.hid (show M = bestTo (isI g) (k + 1) by rw [best_miss (fun h => by rw [hq] at h; simp at h)]; exact HM.out)
          have Hq := Lib.hid (show decide (Indep g k) = false from hq)
          clear hx hy hq hpop2
          go_wp2_with fail
          refine (Hx.out _).mono ?_
          rintro e w' ⟨rfl, rfl⟩
          go_wp2_with fail
          refine (Hy.out _).mono ?_
          rintro e w' ⟨rfl, rfl⟩
          go_wp2_with fail
          refine (isIndependent_b HG.out k false Hq.out hk4 _ _ Hv.out).mono ?_
          rintro e w' ⟨rfl, rfl⟩
          go_wp2_with fail
          go_roundw
          case rel => exact ⟨k + 1, M, by go_num, rfl, by omega, trivial, R.out⟩
          case measure => simp [intOf]; omega
      · have R := Lib.hid (show M = bestTo (isI g) (k + 1) by rw [best_miss (fun h => hpop (by have := h.1; rwa [← HM.out, ← hx, ← hy] at this))]; exact HM.out)
        clear hx hy
        go_wp2_with fail
        refine (Hx.out _).mono ?_
        rintro e w' ⟨rfl, rfl⟩
        go_wp2_with fail
        refine (Hy.out _).mono ?_
        rintro e w' ⟨rfl, rfl⟩
        go_wp2_with fail
        go_roundw
        case rel => exact ⟨k + 1, M, by go_num, rfl, by omega, trivial, R.out⟩
        case measure => simp [intOf]; omega
    · obtain rfl : k = F := by omega
      go_wp2_with fail
      go_ret
      exact ⟨by rw [← HM.out]; rfl, rfl⟩
theorem independent_bad {l : List Int} (h : ¬ GrI l) (v : Value) (w : World) (hv : Ints w v l) :
    Calls Try.prog 37 #[v] w fun e w' => e = .returned (.tuple #[.int .i64 0, .int .i64 2]) ∧ w = w' := by
  have H := Lib.hid (valid_b (decide_eq_false h) v w hv)
  clear h hv
  go_enter Try.func37, Try.ntmps37
  go_wp2_with fail
  refine H.out.mono ?_
  rintro e w1 ⟨rfl, rfl⟩
  go_wp2_with fail
  go_ret2
  exact ⟨rfl, rfl⟩
theorem independent_any {g : List Nat} (hg : Gr g) (v : Value) (w : World) (hv : Ints w v (castN g)) :
    Calls Try.prog 37 #[v] w fun e w' => e = .returned (.tuple #[.int .i64 (bestTo (isI g) (2 ^ g.length) : Nat), .int .i64 0]) ∧ w = w' := by
  have H := Lib.hid (valid_b (decide_eq_true (grI_of hg)) v w hv)
  have H2 := Lib.hid (best_indep hg v w hv)
  clear hv hg
  generalize bestTo (isI g) (2 ^ g.length) = r at *
  go_enter Try.func37, Try.ntmps37
  go_wp2_with fail
  refine H.out.mono ?_
  rintro e w1 ⟨rfl, rfl⟩
  go_wp2_with fail
  refine H2.out.mono ?_
  rintro e w1 ⟨rfl, rfl⟩
  go_wp2_with fail
  go_ret2
  exact ⟨rfl, rfl⟩
#print axioms independent_any
end Go.Proofs.Ytkjpbjbheocciaa
