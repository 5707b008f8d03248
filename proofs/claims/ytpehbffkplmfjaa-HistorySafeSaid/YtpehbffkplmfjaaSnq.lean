/- Contract of pairs: any closure of two pointers, by an invariant. -/
import Derived.Test.YtpehbffkplmfjaaSno
namespace Go.Proofs.Ytpehbffkplmfjaa
open Go.RowKit
/-- what a closure keeps from pair to pair -/
structure Inv (n : FuncId) (c1 c2 : Value) (b : Nat) (u : Value) (l : List Nat) (I : Nat → Nat → World → Prop) : Prop where
  ent : ∀ (x y : Int) (w : World), (callFunc n #[.int .i64 x, .int .i64 y, c1, c2]).run Try.prog w = .ok (.enter n #[.int .i64 x, .int .i64 y, c1, c2]) w
  step : ∀ i j w, I i j w → i < l.length → j < l.length → l.getD i 0 ≠ l.getD j 0 → Calls Try.prog n #[.int .i64 (l.getD i 0 : Nat), .int .i64 (l.getD j 0 : Nat), c1, c2] w fun e w' => e = .returned (.tuple #[]) ∧ I i (j + 1) w'
  skip : ∀ i j w, I i j w → i < l.length → j < l.length → l.getD i 0 = l.getD j 0 → I i (j + 1) w
  next : ∀ i w, I i l.length w → I (i + 1) 0 w
  list : ∀ i j w, I i j w → w.cell? ⟨b, 35, none⟩ = some u ∧ Ints w u (castN l)
set_option maxRecDepth 100000 in
set_option maxHeartbeats 8000000 in
theorem pairs_any {n : FuncId} {c1 c2 : Value} {b : Nat} {u : Value} {l : List Nat} {I : Nat → Nat → World → Prop} (hI : Inv n c1 c2 b u l I) (hl : l.length ≤ 7) (w : World) (h0 : I 0 0 w) :
    Calls Try.prog 69 #[.pointer (some ⟨b, 0, none⟩), .func (.func n) #[] #[c1, c2]] w fun e w' => e = .returned (.tuple #[]) ∧ I l.length 0 w' := by
  obtain ⟨hcl, hin⟩ := hI.list _ _ _ h0
  obtain ⟨a4, c4, hu⟩ : ∃ a c, u = .slice a l.length c := by
    obtain ⟨a, c, e⟩ := ints_slice hin
    rw [castN_length] at e
    exact ⟨a, c, e⟩
  subst hu
  have HI := Lib.hid hI
  have H0 := Lib.hid h0
  clear hI h0 hin
  go_enter Try.func69, Try.ntmps69
  go_wp2_with fail
  clear hcl
  go_loopw [13] (fun vi wr => ∃ i : Nat, vi = .int .i64 i ∧ i ≤ l.length ∧ I i 0 wr) (fun vi _ => l.length - (intOf vi).toNat)
  case atStart => exact ⟨0, rfl, Nat.zero_le _, H0.out⟩
  case round =>
    obtain ⟨i, rfl, hi, hI⟩ := hrel
    obtain ⟨wA, hwA⟩ : ∃ wA : World, wA = wr := ⟨_, rfl⟩
    subst hwA
    have HIi := Lib.hid hI
    clear hI
    by_cases hil : i < l.length
    · obtain ⟨hcl, hin⟩ := HI.out.list _ _ _ HIi.out
      obtain ⟨a5, b5, off5, cap5, hv5, _, ha5, hc5⟩ := IntsN.get hin
      injection hv5 with e1 _ e3
      subst e1 e3
      have hix := run_ix (P := Try.prog) (t := 24) (a := a4) (len := l.length) (cap := c4) (b := b5) (off := off5) (s := 1) Try.underlying24 (by intro w; kernel_rfl) ha5
      simp only [Nat.mul_one] at hix
      have hixi := hix i
      have hci := hc5 i hil
      have Hst := Lib.hid (fun j w h hj => HI.out.step i j w h hil hj)
      have Hsk := Lib.hid (fun j w h hj => HI.out.skip i j w h hil hj)
      obtain ⟨x, hx⟩ : ∃ x, x = l.getD i 0 := ⟨_, rfl⟩
      rw [← hx] at hci Hst Hsk
      clear hix hin hc5 ha5 hx
      go_wp2_with fail
      clear hcl hci hixi
      obtain ⟨wo, hwo⟩ : ∃ wo : World, wo = wA := ⟨_, rfl⟩
      clear hwo
      go_loopw [22] (fun vj wr => ∃ j : Nat, vj = .int .i64 j ∧ j ≤ l.length ∧ I i j wr) (fun vj _ => l.length - (intOf vj).toNat)
      case atStart => exact ⟨0, rfl, Nat.zero_le _, HIi.out⟩
      case round =>
        obtain ⟨j, rfl, hj, hI⟩ := hrel
        obtain ⟨wB, hwB⟩ : ∃ wB : World, wB = wr := ⟨_, rfl⟩
        subst hwB
        have HIj := Lib.hid hI
        clear hI
        by_cases hjl : j < l.length
        · obtain ⟨_, hin⟩ := HI.out.list _ _ _ HIj.out
          obtain ⟨a6, b6, off6, cap6, hv6, _, ha6, hc6⟩ := IntsN.get hin
          injection hv6 with e1 _ e3
          subst e1 e3
          have hix := run_ix (P := Try.prog) (t := 24) (a := a4) (len := l.length) (cap := c4) (b := b6) (off := off6) (s := 1) Try.underlying24 (by intro w; kernel_rfl) ha6
          simp only [Nat.mul_one] at hix
          have hixj := hix j
          have hcj := hc6 j hjl
          have Hstj := Lib.hid (Hst.out j wB HIj.out hjl)
          have Hskj := Lib.hid (Hsk.out j wB HIj.out hjl)
          obtain ⟨y, hy⟩ : ∃ y, y = l.getD j 0 := ⟨_, rfl⟩
          rw [← hy] at hcj Hstj Hskj
          clear hix hin hc6 ha6 hy
          by_cases e : x = y
          · have R := Lib.hid (Hskj.out e)
            have q : ((x : Int) != (y : Int)) = false := by rw [bne_eq_false_iff_eq]; omega
            clear e
            go_wp2_with fail
            go_roundw
            case rel => exact ⟨j + 1, by go_num, by omega, R.out⟩
            case measure => simp [intOf]; omega
          · have HC := Lib.hid (Hstj.out e)
            have q : ((x : Int) != (y : Int)) = true := by rw [bne_iff_ne]; omega
            have hent := HI.out.ent x y
            clear e
            go_wp2_with fail
            refine HC.out.mono ?_
            rintro e w7 ⟨rfl, hI7⟩
            have HI7 := Lib.hid hI7
            clear hI7 hcj hixj
            go_wp2_with fail
            go_roundw
            case rel => exact ⟨j + 1, by go_num, by omega, HI7.out⟩
            case measure => simp [intOf]; omega
        · obtain rfl : j = l.length := by omega
          have R := Lib.hid (HI.out.next i wB HIj.out)
          go_wp2_with fail
          go_roundw
          case rel => exact ⟨i + 1, by go_num, by omega, R.out⟩
          case measure => simp [intOf]; omega
    · obtain rfl : i = l.length := by omega
      go_wp2_with fail
      go_end0
      exact ⟨rfl, HIi.out⟩
#print axioms pairs_any
end Go.Proofs.Ytpehbffkplmfjaa
