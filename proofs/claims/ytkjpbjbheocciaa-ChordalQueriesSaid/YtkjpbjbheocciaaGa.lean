/- Contracts of chordal's smallest functions: has, contains, all, isClique, isIndependent. -/
import Derived.Test.YtkjpbjbheocciaaSets
import Derived.Test.YtkjpbjbheocciaaChecked
import Derived.Outline
import Derived.Deep.QuietTactic
import Derived.BigQuiet
import Derived.Deep.DeepCutAuto
namespace Go.Proofs.Ytkjpbjbheocciaa
open Go.RowKit

theorem decide_ne {p : Prop} [Decidable p] (h : ¬ p) : decide p = false := decide_eq_false h
theorem nat_eq0 (n : Nat) : ((n : Int) == 0) = decide (n = 0) := by rw [Bool.eq_iff_iff]; simp
theorem shr_bit (s k : Nat) (h : s < 2 ^ 63) : bits .and .i64 ((s : Int) / 2 ^ k) 1 = ((if s.testBit k then 1 else 0 : Nat) : Int) := by
  have e : ((s : Int) / 2 ^ k) = ((s / 2 ^ k : Nat) : Int) := by simp
  have h1 : s / 2 ^ k ≤ s := Nat.div_le_self _ _
  rw [e, show (1 : Int) = ((1 : Nat) : Int) from rfl, bits_and_nat _ _ (by omega) (by omega), Nat.testBit_eq_decide_div_mod_eq, Nat.and_one_is_mod]
  have := Nat.mod_two_eq_zero_or_one (s / 2 ^ k)
  rcases this with h | h <;> simp [h]
/-- the power of two under a name -/
theorem pow_name (i : Nat) (h : i ≤ 12) : ∃ P : Nat, P = 2 ^ i ∧ (2 : Int) ^ i = (P : Int) ∧ P ≤ 4096 ∧ 1 ≤ P :=
  ⟨2 ^ i, rfl, by simp, by have := Nat.pow_le_pow_right (n := 2) (by decide) h; simpa using this, Nat.two_pow_pos i⟩
theorem has_any (s i : Nat) (hs : s < 2 ^ 63) (hi : i < 64) (w : World) :
    Calls Try.prog 72 #[.int .i64 s, .int .i64 i] w fun e w' => e = .returned (.bool (s.testBit i)) ∧ w = w' := by
  have t1 := shr_bit s i hs
  have hi1 : (0 : Int) ≤ (i : Int) := by omega
  have hi2 : (i : Int) < 64 := by omega
  cases hb : s.testBit i with
  | false =>
    rw [hb] at t1
    simp only [Bool.false_eq_true, if_false] at t1
    clear hb
    go_enter Try.func72, Try.ntmps72
    go_wp2
    go_ret
    exact ⟨rfl, rfl⟩
  | true =>
    rw [hb] at t1
    simp only [if_true] at t1
    clear hb
    go_enter Try.func72, Try.ntmps72
    go_wp2
    go_ret
    exact ⟨rfl, rfl⟩
theorem has_b (s i : Nat) (b : Bool) (h : s.testBit i = b) (hs : s < 2 ^ 63) (hi : i < 64) (w : World) :
    Calls Try.prog 72 #[.int .i64 s, .int .i64 i] w fun e w' => e = .returned (.bool b) ∧ w = w' := by
  subst h; exact has_any s i hs hi w
theorem contains_any (x y : Nat) (hx : x < 2 ^ 63) (hy : y < 2 ^ 63) (w : World) :
    Calls Try.prog 106 #[.int .i64 x, .int .i64 y] w fun e w' => e = .returned (.bool (decide (Sub y x))) ∧ w = w' := by
  have hb := bits_andNot_nat y x hy hx
  go_enter Try.func106, Try.ntmps106
  go_wp2
  go_ret
  refine ⟨?_, rfl⟩
  exact congrArg (fun b => Ending.returned (.bool b)) (nat_eq0 _)
theorem contains_b (x y : Nat) (b : Bool) (h : decide (Sub y x) = b) (hx : x < 2 ^ 63) (hy : y < 2 ^ 63) (w : World) :
    Calls Try.prog 106 #[.int .i64 x, .int .i64 y] w fun e w' => e = .returned (.bool b) ∧ w = w' := by
  subst h; exact contains_any x y hx hy w
theorem all_any (a : Option Addr) (n c : Nat) (hn : n ≤ 14) (w : World) :
    Calls Try.prog 70 #[.slice a n c] w fun e w' => e = .returned (.int .i64 ((2 ^ n - 1 : Nat) : Int)) ∧ w = w' := by
  obtain ⟨P, hP, p1, p2, p3⟩ : ∃ P : Nat, P = 2 ^ n ∧ (2 : Int) ^ n = (P : Int) ∧ P ≤ 16384 ∧ 1 ≤ P :=
    ⟨2 ^ n, rfl, by simp, by have := Nat.pow_le_pow_right (n := 2) (by decide) hn; simpa using this, Nat.two_pow_pos n⟩
  rw [← hP]
  have HP := Lib.hid hP
  clear hP
  go_enter Try.func70, Try.ntmps70
  go_wp2
  go_ret
  refine ⟨?_, rfl⟩
  exact congrArg (fun b => Ending.returned (.int .i64 b)) (by omega)

def castN (l : List Nat) : List Int := l.map fun x : Nat => (x : Int)
theorem castN_length (l : List Nat) : (castN l).length = l.length := by simp [castN]
theorem castN_get {l : List Nat} {i : Nat} (h : i < (castN l).length) : (castN l)[i] = (nb l i : Nat) := by
  have h' : i < l.length := by simpa [castN] using h
  simp [castN, nb, h']
/-- a graph's slice: what a walk takes of it -/
theorem Ints.graph {w : World} {v : Value} {g : List Nat} (h : Ints w v (castN g)) : ∃ a b off cap, v = .slice a g.length cap ∧ g.length ≤ 9223372036854775807 ∧ (0 < g.length → a = some ⟨b, off, none⟩) ∧
    ∀ i, i < g.length → w.cell? ⟨b, off + i, none⟩ = some (.int .i64 (nb g i : Nat)) := by
  obtain ⟨a, b, off, cap, h1, h2, h3, h4⟩ := Ints.get h
  rw [castN_length] at h1 h2 h3
  exact ⟨a, b, off, cap, h1, h2, h3, fun i hi => by rw [h4 i (by rw [castN_length]; exact hi), castN_get]⟩

theorem cliq_no {g : List Nat} {s i : Nat} (hi : i < g.length) (h1 : s.testBit i = true) (h2 : ¬ Sub s (nb g i ||| 2 ^ i)) : decide (Cliq g s) = false :=
  decide_eq_false fun h => h2 (h i hi h1)
theorem indep_no {g : List Nat} {s i : Nat} (hi : i < g.length) (h1 : s.testBit i = true) (h2 : ¬ nb g i &&& s = 0) : decide (Indep g s) = false :=
  decide_eq_false fun h => h2 (h i hi h1)
theorem lt63 {x n : Nat} (h : x < 2 ^ n) (hn : n ≤ 12) : x < 4096 := by
  have := Nat.pow_le_pow_right (n := 2) (by decide) hn; omega

set_option maxHeartbeats 1000000 in
theorem isClique_any {g : List Nat} (hg : Gr g) (s : Nat) (hs : s < 4096) (v : Value) (w : World) (hv : Ints w v (castN g)) :
    Calls Try.prog 73 #[v, .int .i64 s] w fun e w' => e = .returned (.bool (decide (Cliq g s))) ∧ w = w' := by
  obtain ⟨a, b, off, cap, rfl, hle, ha, hc⟩ := Ints.graph hv
  have hix := run_ix (P := Try.prog) (t := 27) (a := a) (len := g.length) (cap := cap) (b := b) (off := off) (s := 1) Try.underlying27 (by intro w; kernel_rfl) ha
  simp only [Nat.mul_one] at hix
  have Hc := Lib.hid hc
  have HG := Lib.hid hg
  have hn12 := hg.le
  clear ha hv hc hg
  go_enter Try.func73, Try.ntmps73
  go_wp2
  go_loopw [9] (fun i wr => ∃ k : Nat, i = .int .i64 k ∧ k ≤ g.length ∧ wr = w ∧ ∀ q, q < k → s.testBit q = true → Sub s (nb g q ||| 2 ^ q)) (fun i _ => g.length - (intOf i).toNat)
  case atStart => exact ⟨0, rfl, Nat.zero_le _, rfl, fun q hq => by omega⟩
  case round =>
    obtain ⟨k, rfl, hk, hwr, hin⟩ := hrel
    subst hwr
    have Hin := Lib.hid hin
    clear hin
    by_cases hlt : k < g.length
    · have hc1 := Hc.out k hlt
      have hnb := lt63 (HG.out.lt k hlt) hn12
      obtain ⟨P, hP, p1, p2, p3⟩ := pow_name k (by omega)
      cases hb : s.testBit k with
      | false =>
        have R := Lib.hid (show ∀ q, q < k + 1 → s.testBit q = true → Sub s (nb g q ||| 2 ^ q) from fun q hq h => by
          by_cases e : q = k
          · subst e; simp [hb] at h
          · exact Hin.out q (by omega) h)
        have Hb := Lib.hid hb
        clear hb hP
        go_wp2_with (go_at_call 72; refine (has_b s k false Hb.out (by omega) (by omega) _).mono ?_; rintro e w' ⟨rfl, rfl⟩)
        go_roundw
        case rel => exact ⟨k + 1, by go_num, by omega, trivial, R.out⟩
        case measure => simp [intOf]; omega
      | true =>
        have Hb := Lib.hid hb
        generalize hx : nb g k = x at *
        have hor := bits_or_nat x P (by omega) (by omega)
        have hlor : x ||| P < 8192 := Nat.or_lt_two_pow (n := 13) (by omega) (by omega)
        by_cases hsub : Sub s (x ||| P)
        · have R := Lib.hid (show ∀ q, q < k + 1 → s.testBit q = true → Sub s (nb g q ||| 2 ^ q) from fun q hq h => by
            by_cases e : q = k
            · subst e; rw [hx, ← hP]; exact hsub
            · exact Hin.out q (by omega) h)
          have Hs := Lib.hid (decide_eq_true hsub)
          clear hb hP hsub hx
          go_wp2_with (first | (go_at_call 72; refine (has_b s k true Hb.out (by omega) (by omega) _).mono ?_; rintro e w' ⟨rfl, rfl⟩) | (go_at_call 106; refine (contains_b _ _ true Hs.out (by omega) (by omega) _).mono ?_; rintro e w' ⟨rfl, rfl⟩))
          go_roundw
          case rel => exact ⟨k + 1, by go_num, by omega, trivial, R.out⟩
          case measure => simp [intOf]; omega
        · have R := Lib.hid (cliq_no (g := g) hlt hb (by rw [hx, ← hP]; exact hsub))
          have Hs := Lib.hid (decide_ne hsub)
          clear hb hP hsub hx
          go_wp2_with (first | (go_at_call 72; refine (has_b s k true Hb.out (by omega) (by omega) _).mono ?_; rintro e w' ⟨rfl, rfl⟩) | (go_at_call 106; refine (contains_b _ _ false Hs.out (by omega) (by omega) _).mono ?_; rintro e w' ⟨rfl, rfl⟩))
          go_ret
          exact ⟨congrArg (fun b => Ending.returned (.bool b)) R.out.symm, rfl⟩
    · obtain rfl : k = g.length := by omega
      have R := Lib.hid (show decide (Cliq g s) = true from decide_eq_true fun i hi h => Hin.out i hi h)
      go_wp2
      go_ret
      exact ⟨congrArg (fun b => Ending.returned (.bool b)) R.out.symm, rfl⟩
set_option maxHeartbeats 1000000 in
theorem isIndependent_any {g : List Nat} (hg : Gr g) (s : Nat) (hs : s < 4096) (v : Value) (w : World) (hv : Ints w v (castN g)) :
    Calls Try.prog 85 #[v, .int .i64 s] w fun e w' => e = .returned (.bool (decide (Indep g s))) ∧ w = w' := by
  obtain ⟨a, b, off, cap, rfl, hle, ha, hc⟩ := Ints.graph hv
  have hix := run_ix (P := Try.prog) (t := 27) (a := a) (len := g.length) (cap := cap) (b := b) (off := off) (s := 1) Try.underlying27 (by intro w; kernel_rfl) ha
  simp only [Nat.mul_one] at hix
  have Hc := Lib.hid hc
  have HG := Lib.hid hg
  have hn12 := hg.le
  clear ha hv hc hg
  go_enter Try.func85, Try.ntmps85
  go_wp2
  go_loopw [9] (fun i wr => ∃ k : Nat, i = .int .i64 k ∧ k ≤ g.length ∧ wr = w ∧ ∀ q, q < k → s.testBit q = true → nb g q &&& s = 0) (fun i _ => g.length - (intOf i).toNat)
  case atStart => exact ⟨0, rfl, Nat.zero_le _, rfl, fun q hq => by omega⟩
  case round =>
    obtain ⟨k, rfl, hk, hwr, hin⟩ := hrel
    subst hwr
    have Hin := Lib.hid hin
    clear hin
    by_cases hlt : k < g.length
    · have hc1 := Hc.out k hlt
      have hnb := lt63 (HG.out.lt k hlt) hn12
      cases hb : s.testBit k with
      | false =>
        have R := Lib.hid (show ∀ q, q < k + 1 → s.testBit q = true → nb g q &&& s = 0 from fun q hq h => by
          by_cases e : q = k
          · subst e; simp [hb] at h
          · exact Hin.out q (by omega) h)
        have Hb := Lib.hid hb
        clear hb
        go_wp2_with (go_at_call 72; refine (has_b s k false Hb.out (by omega) (by omega) _).mono ?_; rintro e w' ⟨rfl, rfl⟩)
        go_roundw
        case rel => exact ⟨k + 1, by go_num, by omega, trivial, R.out⟩
        case measure => simp [intOf]; omega
      | true =>
        have Hb := Lib.hid hb
        generalize hx : nb g k = x at *
        have hand := bits_and_nat x s (by omega) (by omega)
        by_cases hz : x &&& s = 0
        · have R := Lib.hid (show ∀ q, q < k + 1 → s.testBit q = true → nb g q &&& s = 0 from fun q hq h => by
            by_cases e : q = k
            · subst e; rw [hx]; exact hz
            · exact Hin.out q (by omega) h)
          rw [hz] at hand
          clear hb hz hx
          go_wp2_with (go_at_call 72; refine (has_b s k true Hb.out (by omega) (by omega) _).mono ?_; rintro e w' ⟨rfl, rfl⟩)
          go_roundw
          case rel => exact ⟨k + 1, by go_num, by omega, trivial, R.out⟩
          case measure => simp [intOf]; omega
        · have R := Lib.hid (indep_no (g := g) hlt hb (by rw [hx]; exact hz))
          have q : (((x &&& s : Nat) : Int) != 0) = true := by rw [bne_iff_ne]; omega
          generalize x &&& s = y at *
          clear hb hz hx
          go_wp2_with (go_at_call 72; refine (has_b s k true Hb.out (by omega) (by omega) _).mono ?_; rintro e w' ⟨rfl, rfl⟩)
          go_ret
          exact ⟨congrArg (fun b => Ending.returned (.bool b)) R.out.symm, rfl⟩
    · obtain rfl : k = g.length := by omega
      have R := Lib.hid (show decide (Indep g s) = true from decide_eq_true fun i hi h => Hin.out i hi h)
      go_wp2
      go_ret
      exact ⟨congrArg (fun b => Ending.returned (.bool b)) R.out.symm, rfl⟩
#print axioms isClique_any
end Go.Proofs.Ytkjpbjbheocciaa
