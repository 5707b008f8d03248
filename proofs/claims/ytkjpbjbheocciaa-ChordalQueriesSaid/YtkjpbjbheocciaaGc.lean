/- Contracts of has at all ints, chordal's valid, the reference's Valid. -/
import Derived.Test.YtkjpbjbheocciaaGa
namespace Go.Proofs.Ytkjpbjbheocciaa
open Go.RowKit

def gI (l : List Int) (i : Nat) : Int := l.getD i 0
theorem gI_get {l : List Int} {i : Nat} (h : i < l.length) : l[i] = gI l i := by simp [gI, h]
def hasB (s : Int) (i : Nat) : Bool := decide (s / 2 ^ i % 2 = 1)
theorem bits_and_one (y : Int) : bits .and .i64 y 1 = y % 2 := by
  show IntKind.i64.wrap (((BitVec.ofInt 64 y &&& BitVec.ofInt 64 1).toNat : Nat) : Int) = _
  rw [BitVec.toNat_and, BitVec.toNat_ofInt, show (BitVec.ofInt 64 1).toNat = 1 from rfl, Nat.and_one_is_mod]
  rw [wrap_nat _ (by omega)]
  omega
theorem hasI_any (s : Int) (i : Nat) (hi : i < 64) (w : World) :
    Calls Try.prog 72 #[.int .i64 s, .int .i64 i] w fun e w' => e = .returned (.bool (hasB s i)) ∧ w = w' := by
  have t1 := bits_and_one (s / 2 ^ i)
  have hi1 : (0 : Int) ≤ (i : Int) := by omega
  have hi2 : (i : Int) < 64 := by omega
  unfold hasB
  generalize s / 2 ^ i % 2 = y at *
  go_enter Try.func72, Try.ntmps72
  go_wp2
  go_ret
  exact ⟨rfl, rfl⟩
theorem hasI_b (s : Int) (i : Nat) (b : Bool) (h : hasB s i = b) (hi : i < 64) (w : World) :
    Calls Try.prog 72 #[.int .i64 s, .int .i64 i] w fun e w' => e = .returned (.bool b) ∧ w = w' := by
  subst h; exact hasI_any s i hi w
/-- the test in a walk's spelling -/
theorem hasB_eq {s : Int} {i : Nat} {b : Bool} (h : hasB s i = b) : bits .and .i64 (s / 2 ^ i) 1 = if b then 1 else 0 := by
  rw [bits_and_one]
  unfold hasB at h
  have := Int.emod_two_eq (s / 2 ^ i)
  rcases this with e | e <;> rw [e] at h <;> rw [e] <;> subst h <;> rfl
theorem hasB_nat (s i : Nat) : hasB s i = s.testBit i := by
  unfold hasB
  rw [Nat.testBit_eq_decide_div_mod_eq]
  have e : ((s : Int) / 2 ^ i) = ((s / 2 ^ i : Nat) : Int) := by simp
  rw [e]
  apply decide_eq_decide.2
  omega

def RowOk (l : List Int) (i : Nat) : Prop := (0 ≤ gI l i ∧ gI l i < ((2 ^ l.length : Nat) : Int) ∧ hasB (gI l i) i = false) ∧ ∀ j, j < l.length → hasB (gI l i) j = true → hasB (gI l j) i = true
instance (l : List Int) (i : Nat) : Decidable (RowOk l i) := inferInstanceAs (Decidable (_ ∧ ∀ j, j < l.length → _))
/-- the ints are a graph -/
def GrI (l : List Int) : Prop := (1 ≤ l.length ∧ l.length ≤ 12) ∧ ∀ i, i < l.length → RowOk l i
instance (l : List Int) : Decidable (GrI l) := inferInstanceAs (Decidable (_ ∧ ∀ i, i < l.length → _))
theorem grI_no {l : List Int} {i : Nat} (hi : i < l.length) (h : ¬ RowOk l i) : decide (GrI l) = false := decide_eq_false fun hg => h (hg.2 i hi)
theorem castN_gI {g : List Nat} {i : Nat} (h : i < g.length) : gI (castN g) i = (nb g i : Nat) := by
  rw [← gI_get (by rw [castN_length]; exact h)]; exact castN_get (by rw [castN_length]; exact h)
theorem grI_nat {l : List Int} (h : GrI l) : ∃ g, Gr g ∧ l = castN g := by
  have hpos : ∀ i, i < l.length → 0 ≤ gI l i := fun i hi => (h.2 i hi).1.1
  have e : l = castN (l.map Int.toNat) := by
    apply List.ext_getElem (by simp [castN])
    intro i h1 h2
    simp only [castN, List.getElem_map]
    have := hpos i h1
    rw [← gI_get h1] at this
    omega
  refine ⟨l.map Int.toNat, ?_, e⟩
  have hlen : (l.map Int.toNat).length = l.length := by simp
  have hn : ∀ i, i < l.length → gI l i = ((nb (l.map Int.toNat) i : Nat) : Int) := fun i hi => by
    have := castN_gI (g := l.map Int.toNat) (i := i) (by rw [hlen]; exact hi)
    rwa [← e] at this
  refine ⟨by rw [hlen]; exact h.1.1, by rw [hlen]; exact h.1.2, ?_, ?_, ?_⟩
  · intro i hi
    rw [hlen] at hi ⊢
    have := (h.2 i hi).1.2.1
    rw [hn i hi] at this
    omega
  · intro i hi
    rw [hlen] at hi
    have := (h.2 i hi).1.2.2
    rwa [hn i hi, hasB_nat] at this
  · intro i j hi hj hb
    rw [hlen] at hi hj
    have := (h.2 i hi).2 j hj
    rw [hn i hi, hn j hj, hasB_nat, hasB_nat] at this
    exact this hb
theorem grI_of {g : List Nat} (h : Gr g) : GrI (castN g) := by
  have hlen := castN_length g
  refine ⟨by rw [hlen]; exact ⟨h.pos, h.le⟩, fun i hi => ?_⟩
  rw [hlen] at hi
  refine ⟨?_, fun j hj => ?_⟩
  · rw [castN_gI hi, hlen, hasB_nat]
    exact ⟨by omega, by have := h.lt i hi; omega, h.irr i hi⟩
  · rw [hlen] at hj
    rw [castN_gI hi, castN_gI hj, hasB_nat, hasB_nat]
    exact h.sym i j hi hj

set_option maxHeartbeats 2000000 in
theorem valid_any (l : List Int) (v : Value) (w : World) (hv : Ints w v l) :
    Calls Try.prog 67 #[v] w fun e w' => e = .returned (.bool (decide (GrI l))) ∧ w = w' := by
  obtain ⟨a, b, off, cap, rfl, hle, ha, hc⟩ := Ints.get hv
  have hix := run_ix (P := Try.prog) (t := 27) (a := a) (len := l.length) (cap := cap) (b := b) (off := off) (s := 1) Try.underlying27 (by intro w; kernel_rfl) ha
  simp only [Nat.mul_one] at hix
  by_cases hn : 1 ≤ l.length ∧ l.length ≤ 12
  · obtain ⟨hn1, hn12⟩ := hn
    have Hc := Lib.hid (show ∀ i, i < l.length → w.cell? ⟨b, off + i, none⟩ = some (.int .i64 (gI l i)) from fun i hi => by rw [hc i hi, gI_get hi])
    clear ha hv hc
    obtain ⟨F, hF⟩ : ∃ F : Nat, F = 2 ^ l.length := ⟨_, rfl⟩
    have HF := Lib.hid hF
    have hF1 : 1 ≤ F := by rw [hF]; exact Nat.two_pow_pos _
    have hall := fun w => all_any a l.length cap (by omega) w
    rw [← hF] at hall
    have Hall := Lib.hid hall
    clear hall hF
    go_enter Try.func67, Try.ntmps67
    go_wp2
    go_loopw [16] (fun i wr => ∃ k : Nat, i = .int .i64 k ∧ k ≤ l.length ∧ wr = w ∧ ∀ q, q < k → RowOk l q) (fun i _ => l.length - (intOf i).toNat)
    case atStart => exact ⟨0, rfl, Nat.zero_le _, rfl, fun q hq => by omega⟩
    case round =>
      obtain ⟨k, rfl, hk, hwr, hin⟩ := hrel
      subst hwr
      have Hin := Lib.hid hin
      clear hin
      by_cases hlt : k < l.length
      · have hc1 := Hc.out k hlt
        have hixk := hix k
        obtain ⟨x, hx⟩ : ∃ x, x = gI l k := ⟨_, rfl⟩
        rw [← hx] at hc1
        by_cases hneg : x < 0
        · have R := Lib.hid (grI_no hlt fun h => by have := h.1.1; omega)
          clear hx
          go_wp2_with fail
          go_ret
          exact ⟨congrArg (fun b => Ending.returned (.bool b)) R.out.symm, rfl⟩
        · by_cases hbig : x > ((F - 1 : Nat) : Int)
          · have R := Lib.hid (grI_no hlt fun h => by have := h.1.2.1; rw [← HF.out] at this; omega)
            clear hx
            go_wp2_with (go_at_call 70; refine (Hall.out _).mono ?_; rintro e w' ⟨rfl, rfl⟩)
            go_ret
            exact ⟨congrArg (fun b => Ending.returned (.bool b)) R.out.symm, rfl⟩
          · cases hb : hasB x k with
            | true =>
              have R := Lib.hid (grI_no hlt fun h => by have := h.1.2.2; rw [← hx, hb] at this; simp at this)
              have Hb := Lib.hid hb
              clear hx hb
              go_wp2_with (first | (go_at_call 70; refine (Hall.out _).mono ?_; rintro e w' ⟨rfl, rfl⟩) | (go_at_call 72; refine (hasI_b x k true Hb.out (by omega) _).mono ?_; rintro e w' ⟨rfl, rfl⟩))
              go_ret
              exact ⟨congrArg (fun b => Ending.returned (.bool b)) R.out.symm, rfl⟩
            | false =>
              have H1 := Lib.hid (show 0 ≤ gI l k ∧ gI l k < ((2 ^ l.length : Nat) : Int) ∧ hasB (gI l k) k = false from ⟨by omega, by rw [← HF.out]; omega, by rw [← hx]; exact hb⟩)
              have Hb := Lib.hid hb
              have Hx := Lib.hid hx
              clear hx hb
              go_wp2_with (first | (go_at_call 70; refine (Hall.out _).mono ?_; rintro e w' ⟨rfl, rfl⟩) | (go_at_call 72; refine (hasI_b x k false Hb.out (by omega) _).mono ?_; rintro e w' ⟨rfl, rfl⟩))
              obtain ⟨wo, rfl⟩ : ∃ wo : World, wo = wr := ⟨_, rfl⟩
              go_loopw [36] (fun i wr => ∃ j : Nat, i = .int .i64 j ∧ j ≤ l.length ∧ wr = wo ∧ ∀ q, q < j → hasB x q = true → hasB (gI l q) k = true) (fun i _ => l.length - (intOf i).toNat)
              case atStart => exact ⟨0, rfl, Nat.zero_le _, rfl, fun q hq => by omega⟩
              case round =>
                obtain ⟨j, rfl, hj, hwr, hin2⟩ := hrel
                subst hwr
                have Hin2 := Lib.hid hin2
                clear hin2
                by_cases hltj : j < l.length
                · have hc2 := Hc.out j hltj
                  have hixj := hix j
                  cases hb1 : hasB x j with
                  | false =>
                    have Hb1 := Lib.hid hb1
                    have R := Lib.hid (show ∀ q, q < j + 1 → hasB x q = true → hasB (gI l q) k = true from fun q hq h => by
                      by_cases e : q = j
                      · subst e; rw [hb1] at h; simp at h
                      · exact Hin2.out q (by omega) h)
                    clear hb1
                    go_wp2_with (go_at_call 72; refine (hasI_b x j false Hb1.out (by omega) _).mono ?_; rintro e w' ⟨rfl, rfl⟩)
                    go_roundw
                    case rel => exact ⟨j + 1, by go_num, by omega, trivial, R.out⟩
                    case measure => simp [intOf]; omega
                  | true =>
                    have Hb1 := Lib.hid hb1
                    obtain ⟨y, hy⟩ : ∃ y, y = gI l j := ⟨_, rfl⟩
                    rw [← hy] at hc2
                    cases hb2 : hasB y k with
                    | false =>
                      have Hb2 := Lib.hid hb2
                      have R := Lib.hid (grI_no hlt fun h => by have := h.2 j hltj (by rw [← Hx.out]; exact hb1); rw [← hy, hb2] at this; simp at this)
                      clear hb1 hb2 hy
                      go_wp2_with fail
                      refine (hasI_b x j true Hb1.out (by omega) _).mono ?_
                      rintro e w' ⟨rfl, rfl⟩
                      go_wp2_with fail
                      refine (hasI_b y k false Hb2.out (by omega) _).mono ?_
                      rintro e w' ⟨rfl, rfl⟩
                      go_wp2_with fail
                      go_ret
                      exact ⟨congrArg (fun b => Ending.returned (.bool b)) R.out.symm, rfl⟩
                    | true =>
                      have Hb2 := Lib.hid hb2
                      have R := Lib.hid (show ∀ q, q < j + 1 → hasB x q = true → hasB (gI l q) k = true from fun q hq h => by
                        by_cases e : q = j
                        · subst e; rw [← hy]; exact hb2
                        · exact Hin2.out q (by omega) h)
                      clear hb1 hb2 hy
                      go_wp2_with fail
                      refine (hasI_b x j true Hb1.out (by omega) _).mono ?_
                      rintro e w' ⟨rfl, rfl⟩
                      go_wp2_with fail
                      refine (hasI_b y k true Hb2.out (by omega) _).mono ?_
                      rintro e w' ⟨rfl, rfl⟩
                      go_wp2_with fail
                      go_roundw
                      case rel => exact ⟨j + 1, by go_num, by omega, trivial, R.out⟩
                      case measure => simp [intOf]; omega
                · obtain rfl : j = l.length := by omega
                  have R := Lib.hid (show ∀ q, q < k + 1 → RowOk l q from fun q hq => by
                    by_cases e : q = k
                    · subst e; exact ⟨H1.out, fun j hj h => Hin2.out j hj (by rw [Hx.out]; exact h)⟩
                    · exact Hin.out q (by omega))
                  go_wp2_with fail
                  go_roundw
                  case rel => exact ⟨k + 1, by go_num, by omega, trivial, R.out⟩
                  case measure => simp [intOf]; omega
      · obtain rfl : k = l.length := by omega
        have R := Lib.hid (show decide (GrI l) = true from decide_eq_true ⟨⟨hn1, hn12⟩, Hin.out⟩)
        go_wp2
        go_ret
        exact ⟨congrArg (fun b => Ending.returned (.bool b)) R.out.symm, rfl⟩
  · have R := Lib.hid (show decide (GrI l) = false from decide_eq_false fun h => hn h.1)
    have q : l.length < 1 ∨ (1 ≤ l.length ∧ (12 : Int) < (l.length : Int)) := by omega
    clear hn hc ha hv hix
    rcases q with q | ⟨q1, q⟩
    all_goals
      go_enter Try.func67, Try.ntmps67
      go_wp2
      go_ret
      exact ⟨congrArg (fun b => Ending.returned (.bool b)) R.out.symm, rfl⟩
#print axioms valid_any
end Go.Proofs.Ytkjpbjbheocciaa
