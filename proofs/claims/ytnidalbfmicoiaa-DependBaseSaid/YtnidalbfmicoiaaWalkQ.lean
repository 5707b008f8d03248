/- Contract of alike. -/
import Derived.Test.YtnidalbfmicoiaaWalkO
namespace Go.Proofs.Ytnidalbfmicoiaa
open Go.RowKit

/-- the same follows, for the sets below F -/
def Alike (A B : List DepN) (F : Nat) : Prop := ∀ k, k < F → cl A k = cl B k
instance (A B : List DepN) (F : Nat) : Decidable (Alike A B F) := inferInstanceAs (Decidable (∀ k, k < F → _))
set_option maxRecDepth 100000 in
theorem alike_F {m F : Nat} {A B : List DepN} (hA : Okl m A) (hB : Okl m B) (hF : F = 2 ^ m) (u v : Value) (w : World) (hu : Deps w u (castD A)) (hv : Deps w v (castD B)) :
    Calls Try.prog 64 #[.int .i64 m, u, v] w fun e w' => e = .returned (.tuple #[.bool (decide (Alike A B F)), .bool true]) ∧ Below w.heap.size w w' := by
  have pc : (2 : Int) ^ m = (F : Int) := by rw [hF]; simp
  obtain ⟨p1, p2⟩ := hA.pow
  rw [← hF] at p1 p2
  have hm8 := hA.h8
  have HA := Lib.hid hA
  have HB := Lib.hid hB
  have HF := Lib.hid hF
  have Hu := Lib.hid hu
  have Hv := Lib.hid hv
  clear hA hB hF hu hv
  go_enter Try.func64, Try.ntmps64
  go_wp2_with fail
  go_loopw [15] (fun i wr => ∃ k : Nat, i = .int .i64 k ∧ k ≤ F ∧ Below w.heap.size w wr ∧ Alike A B k) (fun i _ => F - (intOf i).toNat)
  case atStart => exact ⟨0, rfl, Nat.zero_le _, Below.refl _ _, fun i h => by omega⟩
  case round =>
    obtain ⟨k, rfl, hk, hb, hin⟩ := hrel
    have Hb := Lib.hid hb
    have Hin := Lib.hid hin
    clear hb hin
    by_cases hlt : k < F
    · go_wp2_with fail
      refine (closure_nat HA.out (by rw [← HF.out]; exact hlt) _ _ (Deps.keep Hu.out Hb.out)).mono ?_
      rintro e w2 ⟨rfl, hb2⟩
      have Hb2 := Lib.hid (Below.tr Hb.out hb2)
      clear hb2
      go_wp2_with fail
      refine (closure_nat HB.out (by rw [← HF.out]; exact hlt) _ _ (Deps.keep Hv.out Hb2.out)).mono ?_
      rintro e w3 ⟨rfl, hb3⟩
      have Hb3 := Lib.hid (Below.tr Hb2.out hb3)
      clear hb3
      by_cases hc : cl A k = cl B k
      · have t1 : (((cl A k : Nat) : Int) != ((cl B k : Nat) : Int)) = false := by rw [hc]; simp
        have HR := Lib.hid (show Alike A B (k + 1) from fun i hi => by
          by_cases e : i = k
          · subst e; exact hc
          · exact Hin.out i (by omega))
        clear hc
        go_wp2_with fail
        go_roundw
        case rel => exact ⟨k + 1, by go_num, by omega, Hb3.out, HR.out⟩
        case measure => simp [intOf]; omega
      · have t1 : (((cl A k : Nat) : Int) != ((cl B k : Nat) : Int)) = true := by simp; omega
        have HR := Lib.hid (show decide (Alike A B F) = false from decide_eq_false fun h => hc (h k hlt))
        clear hc
        go_wp2_with fail
        go_ret2
        exact ⟨by rw [HR.out]; rfl, Hb3.out⟩
    · obtain rfl : k = F := by omega
      have HR := Lib.hid (decide_eq_true Hin.out)
      go_wp2_with fail
      go_ret2
      exact ⟨by rw [HR.out]; rfl, Hb.out⟩
set_option maxRecDepth 100000 in
theorem alike_bad {m : Nat} (l : List (Int × Int)) {B : List DepN} (hno : ¬ ValidP m l [0]) (hB : Okl m B) (u v : Value) (w : World) (hu : Deps w u l) (hv : Deps w v (castD B)) :
    Calls Try.prog 64 #[.int .i64 m, u, v] w fun e w' => e = .returned (.tuple #[.bool false, .bool false]) ∧ Below w.heap.size w w' := by
  obtain ⟨F, hF⟩ : ∃ F : Nat, F = 2 ^ m := ⟨_, rfl⟩
  have pc : (2 : Int) ^ m = (F : Int) := by rw [hF]; simp
  obtain ⟨p1, p2⟩ := hB.pow
  rw [← hF] at p1 p2
  have hm8 := hB.h8
  have HB := Lib.hid hB
  have HF := Lib.hid hF
  have Hu := Lib.hid hu
  have Hv := Lib.hid hv
  have Hno := Lib.hid hno
  clear hB hF hu hv hno
  go_enter Try.func64, Try.ntmps64
  go_wp2_with fail
  go_loopw [15] (fun i wr => i = .int .i64 0 ∧ Below w.heap.size w wr) (fun _ _ => 0)
  case atStart => exact ⟨rfl, Below.refl _ _⟩
  case round =>
    obtain ⟨rfl, hb⟩ := hrel
    have Hb := Lib.hid hb
    clear hb
    go_wp2_with fail
    refine (closure_bad _ _ _ _ _ (Deps.keep Hu.out Hb.out) Hno.out).mono ?_
    rintro e w2 ⟨rfl, hb2⟩
    have Hb2 := Lib.hid (Below.tr Hb.out hb2)
    clear hb2
    go_wp2_with fail
    refine (closure_nat (t := 0) HB.out (by rw [← HF.out]; omega) _ _ (Deps.keep Hv.out Hb2.out)).mono ?_
    rintro e w3 ⟨rfl, hb3⟩
    have Hb3 := Lib.hid (Below.tr Hb2.out hb3)
    clear hb3
    go_wp2_with fail
    go_ret2
    exact ⟨rfl, Hb3.out⟩
end Go.Proofs.Ytnidalbfmicoiaa
