/- Contract of variables. -/
import Derived.Test.YthndplkjhbmfmaaQry
import Derived.BigQuiet
import Derived.Deep.DeepCutAuto
import Derived.WalkSpells
namespace Go.Proofs.Ythndplkjhbmfmaa
open Go.RowKit
theorem isVar_any (t : Int) (B : Bool) (hB : decide (0 ≤ t ∧ t < 8) = B) (w : World) :
    Calls Try.prog 139 #[.int .i64 t] w fun e w' => e = .returned (.bool B) ∧ w' = w := by
  by_cases h : 0 ≤ t
  · have q : t ≥ 0 := h
    have R := Lib.hid (show decide (t < 8) = B from by rw [← hB]; exact decide_eq_decide.2 ⟨fun x => ⟨h, x⟩, fun x => x.2⟩)
    clear h hB
    go_enter Try.func139, Try.ntmps139
    go_wp2_with fail
    go_ret
    exact ⟨congrArg (fun b => Ending.returned (.bool b)) R.out, rfl⟩
  · have q : ¬ t ≥ 0 := h
    have R := Lib.hid (show false = B from by rw [← hB]; exact (decide_eq_false (fun x => h x.1)).symm)
    clear h hB
    go_enter Try.func139, Try.ntmps139
    go_wp2_with fail
    go_ret
    exact ⟨congrArg (fun b => Ending.returned (.bool b)) R.out, rfl⟩
def isV (t : Int) : Prop := 0 ≤ t ∧ t < 8
instance (t : Int) : Decidable (isV t) := inferInstanceAs (Decidable (_ ∧ _))
def vsT (l : List Int) : Nat → Nat
  | 0 => 0
  | k + 1 => if isV (l.getD k 0) then vsT l k ||| 2 ^ (l.getD k 0).toNat else vsT l k
theorem vsT_lt (l : List Int) : ∀ k, vsT l k < 256
  | 0 => by rw [vsT]; omega
  | k + 1 => by
    rw [vsT]
    split
    · rename_i h
      exact Nat.or_lt_two_pow (n := 8) (vsT_lt l k) (Nat.pow_lt_pow_right (by decide) (by unfold isV at h; omega))
    · exact vsT_lt l k
theorem vsT_bit (l : List Int) (i : Nat) : ∀ k, k ≤ l.length → ((vsT l k).testBit i = true ↔ i < 8 ∧ (i : Int) ∈ l.take k)
  | 0, _ => by simp [vsT]
  | k + 1, hk => by
    have ih := vsT_bit l i k (by omega)
    rw [vsT, List.take_succ_eq_append_getElem (by omega)]
    have e : l.getD k 0 = l[k] := by rw [List.getD_eq_getElem?_getD, List.getElem?_eq_getElem (by omega)]; rfl
    rw [e]
    by_cases h : isV l[k]
    · rw [if_pos h, Nat.testBit_or, Bool.or_eq_true, ih, Nat.testBit_two_pow, decide_eq_true_eq, List.mem_append, List.mem_singleton]
      unfold isV at h
      constructor
      · rintro (⟨a, b⟩ | a)
        · exact ⟨a, .inl b⟩
        · exact ⟨by omega, .inr (by omega)⟩
      · rintro ⟨a, b | b⟩
        · exact .inl ⟨a, b⟩
        · exact .inr (by omega)
    · rw [if_neg h, ih, List.mem_append, List.mem_singleton]
      unfold isV at h
      exact ⟨fun q => ⟨q.1, .inl q.2⟩, fun q => ⟨q.1, q.2.elim id fun q2 => by omega⟩⟩
def vsA (l : List Int) : Nat := vsT l l.length
theorem qshl_one (k : Nat) : (1 : Int) * 2 ^ k = ((2 ^ k : Nat) : Int) := by
  rw [Int.one_mul]; simp
set_option maxRecDepth 100000 in
set_option maxHeartbeats 4000000 in
theorem atomVars_any (r : Int) (l : List Int) (u : Value) (w : World) (hu : Ints w u l) :
    Calls Try.prog 141 #[.agg #[.int .i64 r, u]] w fun e w' => e = .returned (.int .i64 (vsA l : Nat)) ∧ Below w.heap.size w w' := by
  obtain ⟨a, b, off, cap, rfl, hle, ha, hc⟩ := Ints.get hu
  have hix := run_ix (P := Try.prog) (t := 23) (a := a) (len := l.length) (cap := cap) (b := b) (off := off) (s := 1) Try.underlying23 (by intro w; kernel_rfl) ha
  simp only [Nat.mul_one] at hix
  have Hix := Lib.hid hix
  have Hc := Lib.hid hc
  obtain ⟨w1, hw1⟩ : ∃ w1, w1 = w.alloc (.cells #[.int .i64 r, .slice a l.length cap] 94) := ⟨_, rfl⟩
  have Hb1 := Lib.hid (show Below w.heap.size w w1 from by rw [hw1]; exact below_alloc _ _)
  have g1 : w1.cell? ⟨w.heap.size, 1, none⟩ = some (.slice a l.length cap) := by rw [hw1]; exact cell_new w _ _ 1
  have Hs := Lib.hid (fun k => show vsT l (k + 1) = if isV (l.getD k 0) then vsT l k ||| 2 ^ (l.getD k 0).toNat else vsT l k from rfl)
  have Hlt := Lib.hid (vsT_lt l)
  have Hw1 := Lib.hid hw1
  clear hu ha hc hix hw1
  go_enter Try.func141, Try.ntmps141
  go_upto_region 1 with fail
  rw [← Hw1.out]
  clear Hw1
  go_wp2_with fail
  clear g1
  go_loopw [3, 9] (fun vs vi wr => ∃ k : Nat, vs = .int .i64 (vsT l k : Nat) ∧ vi = .int .i64 k ∧ k ≤ l.length ∧ wr = w1) (fun _ vi _ => l.length - (intOf vi).toNat)
  case atStart => exact ⟨0, rfl, rfl, Nat.zero_le _, rfl⟩
  case round =>
    obtain ⟨k, rfl, rfl, hk, rfl⟩ := hrel
    by_cases hlt : k < l.length
    · have hc1 := Below.keep Hb1.out (Hc.out k hlt)
      have hixk := Hix.out k
      have HS := Lib.hid (Hs.out k)
      have hlt1 := Hlt.out k
      have e : l.getD k 0 = l[k] := by rw [List.getD_eq_getElem?_getD, List.getElem?_eq_getElem hlt]; rfl
      rw [← e] at hc1
      obtain ⟨t, ht⟩ : ∃ t, t = l.getD k 0 := ⟨_, rfl⟩
      obtain ⟨S, hS⟩ : ∃ S, S = vsT l k := ⟨_, rfl⟩
      rw [← ht, ← hS] at HS
      rw [← ht] at hc1
      rw [← hS] at hlt1 ⊢
      clear ht hS e
      by_cases h : isV t
      · have R := Lib.hid (HS.out.trans (if_pos h))
        unfold isV at h
        obtain ⟨n, rfl⟩ : ∃ n : Nat, t = n := ⟨t.toNat, by omega⟩
        rw [Int.toNat_natCast] at R
        have hn8 : n < 8 := by omega
        have hsh := qshl_one n
        have hp : 2 ^ n < 256 := Nat.lt_of_lt_of_eq (Nat.pow_lt_pow_right (a := 2) (by decide) hn8) (by decide)
        have hor := bits_or_nat S (2 ^ n) (by omega) (by omega)
        obtain ⟨p, hpn⟩ : ∃ p, p = 2 ^ n := ⟨_, rfl⟩
        rw [← hpn] at R hsh hp hor
        have HV := Lib.hid (isVar_any (n : Int) true (decide_eq_true (by omega)) wr)
        have hn0 : (0 : Int) ≤ (n : Int) := by omega
        have hw := wrap_nat p (by omega)
        clear hpn h
        go_wp2_with fail
        refine HV.out.mono ?_
        rintro e w2 ⟨rfl, rfl⟩
        go_wp2_with fail
        go_roundw
        case rel => exact ⟨k + 1, by rw [R.out], by go_num, by omega, (by first | rfl | trivial)⟩
        case measure => simp [intOf]; omega
      · have R := Lib.hid (HS.out.trans (if_neg h))
        have HV := Lib.hid (isVar_any t false (decide_eq_false h) wr)
        clear h
        go_wp2_with fail
        refine HV.out.mono ?_
        rintro e w2 ⟨rfl, rfl⟩
        go_wp2_with fail
        go_roundw
        case rel => exact ⟨k + 1, by rw [R.out], by go_num, by omega, (by first | rfl | trivial)⟩
        case measure => simp [intOf]; omega
    · obtain rfl : k = l.length := by omega
      go_wp2_with fail
      go_ret
      exact ⟨rfl, Hb1.out⟩
#print axioms atomVars_any
end Go.Proofs.Ythndplkjhbmfmaa
