/- The order of lists of numbers; contracts of cmp.Compare, slices.Compare. -/
import Derived.Test.YtfplmdieeabgpaaOwn
import Derived.WalkSpells
namespace Go.Proofs.Ytfplmdieeabgpaa
open Go.RowKit
def cmpL : List Int → List Int → Int
  | [], [] => 0
  | [], _ :: _ => -1
  | _ :: _, [] => 1
  | x :: xs, y :: ys => if x < y then -1 else if y < x then 1 else cmpL xs ys
theorem cmpL_refl : ∀ x, cmpL x x = 0
  | [] => rfl
  | x :: xs => by rw [cmpL, if_neg (by omega), if_neg (by omega)]; exact cmpL_refl xs
theorem cmpL_eq : ∀ {x y : List Int}, cmpL x y = 0 → x = y
  | [], [], _ => rfl
  | [], _ :: _, h => by simp [cmpL] at h
  | _ :: _, [], h => by simp [cmpL] at h
  | x :: xs, y :: ys, h => by
    rw [cmpL] at h
    split at h
    · omega
    · split at h
      · omega
      · rw [cmpL_eq h, show x = y by omega]
theorem cmpL_swap : ∀ x y : List Int, cmpL y x = - cmpL x y
  | [], [] => rfl
  | [], _ :: _ => rfl
  | _ :: _, [] => rfl
  | x :: xs, y :: ys => by
    rw [cmpL, cmpL]
    by_cases h : x < y
    · rw [if_neg (by omega), if_pos h, if_pos h]; rfl
    · by_cases h2 : y < x
      · rw [if_pos h2, if_neg h, if_pos h2]
      · rw [if_neg h2, if_neg h, if_neg h, if_neg h2]; exact cmpL_swap xs ys
theorem cmpL_trans : ∀ {x y z : List Int}, cmpL x y < 0 → cmpL y z < 0 → cmpL x z < 0
  | [], [], _, h, _ => by simp [cmpL] at h
  | [], _ :: _, [], _, h => by simp [cmpL] at h
  | [], _ :: _, _ :: _, _, _ => by simp [cmpL]
  | _ :: _, [], _, h, _ => by simp [cmpL] at h
  | _ :: _, _ :: _, [], _, h => by simp [cmpL] at h
  | x :: xs, y :: ys, z :: zs, h, k => by
    rw [cmpL] at h k ⊢
    by_cases a : x < y
    · by_cases b : y < z
      · rw [if_pos (by omega)]; omega
      · rw [if_neg b] at k
        by_cases b2 : z < y
        · rw [if_pos b2] at k; omega
        · rw [if_pos (by omega)]; omega
    · rw [if_neg a] at h
      by_cases a2 : y < x
      · rw [if_pos a2] at h; omega
      · rw [if_neg a2] at h
        obtain rfl : x = y := by omega
        by_cases b : x < z
        · rw [if_pos b]; omega
        · rw [if_neg b] at k ⊢
          by_cases b2 : z < x
          · rw [if_pos b2] at k; omega
          · rw [if_neg b2] at k ⊢; exact cmpL_trans h k
theorem cmpL_drop {x y : List Int} {k : Nat} (h1 : k < x.length) (h2 : k < y.length) : cmpL (x.drop k) (y.drop k) = if x[k] < y[k] then -1 else if y[k] < x[k] then 1 else cmpL (x.drop (k + 1)) (y.drop (k + 1)) := by
  rw [List.drop_eq_getElem_cons h1, List.drop_eq_getElem_cons h2, cmpL]
theorem cmpL_range : ∀ x y : List Int, -1 ≤ cmpL x y ∧ cmpL x y ≤ 1
  | [], [] => by simp [cmpL]
  | [], _ :: _ => by simp [cmpL]
  | _ :: _, [] => by simp [cmpL]
  | x :: xs, y :: ys => by
    rw [cmpL]
    split
    · omega
    · split
      · omega
      · exact cmpL_range xs ys
theorem isNaN_any (x : Int) (w : World) : Calls Try.prog 128 #[.int .i64 x] w fun e w' => e = .returned (.bool false) ∧ w = w' := by
  have q : (x != x) = false := by simp
  go_enter Try.func128, Try.ntmps128
  go_wp2_with fail
  go_ret
  exact ⟨rfl, rfl⟩
def cmp1 (x y : Int) : Int := if x < y then -1 else if y < x then 1 else 0
theorem cmp_any (x y : Int) (w : World) : Calls Try.prog 102 #[.int .i64 x, .int .i64 y] w fun e w' => e = .returned (.int .i64 (cmp1 x y)) ∧ w = w' := by
  by_cases h1 : x < y
  · have R := Lib.hid (show cmp1 x y = -1 from if_pos h1)
    go_enter Try.func102, Try.ntmps102
    go_wp2_with fail
    refine (isNaN_any x _).mono ?_
    rintro e w' ⟨rfl, rfl⟩
    go_wp2_with fail
    refine (isNaN_any y _).mono ?_
    rintro e w' ⟨rfl, rfl⟩
    go_wp2_with fail
    go_ret
    exact ⟨by rw [R.out]; rfl, rfl⟩
  · by_cases h2 : x > y
    · have R := Lib.hid (show cmp1 x y = 1 from by unfold cmp1; rw [if_neg h1, if_pos h2])
      go_enter Try.func102, Try.ntmps102
      go_wp2_with fail
      refine (isNaN_any x _).mono ?_
      rintro e w' ⟨rfl, rfl⟩
      go_wp2_with fail
      refine (isNaN_any y _).mono ?_
      rintro e w' ⟨rfl, rfl⟩
      go_wp2_with fail
      go_ret
      exact ⟨by rw [R.out]; rfl, rfl⟩
    · have R := Lib.hid (show cmp1 x y = 0 from by unfold cmp1; rw [if_neg h1, if_neg h2])
      go_enter Try.func102, Try.ntmps102
      go_wp2_with fail
      refine (isNaN_any x _).mono ?_
      rintro e w' ⟨rfl, rfl⟩
      go_wp2_with fail
      refine (isNaN_any y _).mono ?_
      rintro e w' ⟨rfl, rfl⟩
      go_wp2_with fail
      go_ret
      exact ⟨by rw [R.out]; rfl, rfl⟩
set_option maxHeartbeats 2000000 in
theorem compare_any (x y : List Int) (v u : Value) (w : World) (hv : Ints w v x) (hu : Ints w u y) :
    Calls Try.prog 59 #[v, u] w fun e w' => e = .returned (.int .i64 (cmpL x y)) ∧ w = w' := by
  obtain ⟨a, b, off, cap, rfl, hle, ha, hc⟩ := Ints.get hv
  have hix := run_ix (P := Try.prog) (t := 22) (a := a) (len := x.length) (cap := cap) (b := b) (off := off) (s := 1) Try.underlying22 (by intro w; kernel_rfl) ha
  simp only [Nat.mul_one] at hix
  have Hc := Lib.hid hc
  obtain ⟨a', b', off', cap', rfl, hle', ha', hc'⟩ := Ints.get hu
  have hix' := run_ix (P := Try.prog) (t := 22) (a := a') (len := y.length) (cap := cap') (b := b') (off := off') (s := 1) Try.underlying22 (by intro w; kernel_rfl) ha'
  simp only [Nat.mul_one] at hix'
  have Hc' := Lib.hid hc'
  have Hix := Lib.hid hix
  have Hix' := Lib.hid hix'
  clear ha hv hc ha' hu hc' hix hix'
  obtain ⟨C, hC⟩ : ∃ C, C = cmpL x y := ⟨_, rfl⟩
  rw [← hC]
  have HC := Lib.hid (show C = cmpL (x.drop 0) (y.drop 0) from by rw [hC]; rfl)
  clear hC
  go_enter Try.func59, Try.ntmps59
  go_wp2_with fail
  go_loopw [11] (fun i wr => ∃ k : Nat, i = .int .i64 k ∧ k ≤ x.length ∧ k ≤ y.length ∧ wr = w ∧ C = cmpL (x.drop k) (y.drop k)) (fun i _ => x.length - (intOf i).toNat)
  case atStart => exact ⟨0, rfl, Nat.zero_le _, Nat.zero_le _, rfl, HC.out⟩
  case round =>
    obtain ⟨k, rfl, hk, hky, hwr, hin⟩ := hrel
    subst hwr
    have Hin := Lib.hid hin
    clear hin HC
    by_cases hlt : k < x.length
    · have hck := Hc.out k hlt
      have hixk := Hix.out k
      by_cases hy : k < y.length
      · have hck' := Hc'.out k hy
        have hixk' := Hix'.out k
        have hD := Hin.out.trans (cmpL_drop hlt hy)
        obtain ⟨s, hs⟩ : ∃ s, s = x[k] := ⟨_, rfl⟩
        obtain ⟨t, ht⟩ : ∃ t, t = y[k] := ⟨_, rfl⟩
        rw [← hs] at hck hD
        rw [← ht] at hck' hD
        have HD := Lib.hid hD
        clear hs ht hD
        go_wp2_with fail
        refine (cmp_any s t _).mono ?_
        rintro e w' ⟨rfl, rfl⟩
        by_cases h1 : s < t
        · have R := Lib.hid (HD.out.trans (if_pos h1))
          rw [show cmp1 s t = -1 from if_pos h1]
          go_wp2_with fail
          go_ret
          exact ⟨by rw [R.out]; rfl, rfl⟩
        · by_cases h2 : t < s
          · have R := Lib.hid (HD.out.trans ((if_neg h1).trans (if_pos h2)))
            rw [show cmp1 s t = 1 from (if_neg h1).trans (if_pos h2)]
            go_wp2_with fail
            go_ret
            exact ⟨by rw [R.out]; rfl, rfl⟩
          · have R := Lib.hid (HD.out.trans ((if_neg h1).trans (if_neg h2)))
            rw [show cmp1 s t = 0 from (if_neg h1).trans (if_neg h2)]
            go_wp2_with fail
            go_roundw
            case rel => exact ⟨k + 1, by go_num, by omega, by omega, by first | rfl | trivial, R.out⟩
            case measure => simp [intOf]; omega
      · obtain rfl : k = y.length := by omega
        have R := Lib.hid (show C = 1 from by rw [Hin.out, List.drop_length, List.drop_eq_getElem_cons hlt]; rfl)
        go_wp2_with fail
        go_ret
        exact ⟨by rw [R.out]; rfl, rfl⟩
    · obtain rfl : k = x.length := by omega
      by_cases hy : x.length < y.length
      · have R := Lib.hid (show C = -1 from by rw [Hin.out, List.drop_length, List.drop_eq_getElem_cons hy]; rfl)
        go_wp2_with fail
        go_ret
        exact ⟨by rw [R.out]; rfl, rfl⟩
      · have R := Lib.hid (show C = 0 from by rw [Hin.out, List.drop_length, List.drop_eq_nil_of_le (by omega)]; rfl)
        go_wp2_with fail
        go_ret
        exact ⟨by rw [R.out]; rfl, rfl⟩
/-! ### sorted lists -/
def Strict (l : List (List Int)) : Prop := l.Pairwise fun x y => cmpL x y < 0
theorem strict_nodup {l : List (List Int)} (h : Strict l) : l.Nodup := by
  rw [List.nodup_iff_pairwise_ne]
  refine List.Pairwise.imp (fun {a b} hab e => ?_) h
  subst e; rw [cmpL_refl] at hab; omega
theorem strict_eq : ∀ {l m : List (List Int)}, Strict l → Strict m → (∀ x, x ∈ l ↔ x ∈ m) → l = m
  | [], [], _, _, _ => rfl
  | [], y :: m, _, _, h => by have := (h y).2 (by simp); simp at this
  | x :: l, [], _, _, h => by have := (h x).1 (by simp); simp at this
  | x :: l, y :: m, hl, hm, h => by
    obtain ⟨l1, l2⟩ := List.pairwise_cons.1 hl
    obtain ⟨m1, m2⟩ := List.pairwise_cons.1 hm
    have e : x = y := by
      rcases List.mem_cons.1 ((h x).1 (by simp)) with e | hx
      · exact e
      · rcases List.mem_cons.1 ((h y).2 (by simp)) with e | hy
        · exact e.symm
        · have a := l1 y hy
          have b := m1 x hx
          rw [cmpL_swap] at b; omega
    subst e
    rw [strict_eq (l := l) (m := m) l2 m2 fun z => ?_]
    have hz := h z
    simp only [List.mem_cons] at hz
    constructor
    · intro q
      rcases hz.1 (.inr q) with rfl | q'
      · have := l1 z q; rw [cmpL_refl] at this; omega
      · exact q'
    · intro q
      rcases hz.2 (.inr q) with rfl | q'
      · have := m1 z q; rw [cmpL_refl] at this; omega
      · exact q'
#print axioms compare_any
#print axioms strict_eq
end Go.Proofs.Ytfplmdieeabgpaa
