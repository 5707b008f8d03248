/- Contracts of depend.Closure, deps, awake. -/
import Derived.Test.YtnidalbfmicoiaaWalkC
namespace Go.Proofs.Ytnidalbfmicoiaa
open Go.RowKit

theorem valid_no {n : Int} {l : List (Int × Int)} {sets : List Int} {v u : Value} {w : World} (hv : Deps w v l) (hu : Ints w u sets) (h : ¬ ValidP n l sets) :
    Calls Try.prog 70 #[.int .i64 n, v, u] w fun e w' => e = .returned (.bool false) ∧ Below w.heap.size w w' :=
  (valid_any n l sets v u w hv hu).mono fun _ _ hq => by rwa [decide_eq_false h] at hq
theorem valid_yes {n : Int} {l : List (Int × Int)} {sets : List Int} {v u : Value} {w : World} (hv : Deps w v l) (hu : Ints w u sets) (h : ValidP n l sets) :
    Calls Try.prog 70 #[.int .i64 n, v, u] w fun e w' => e = .returned (.bool true) ∧ Below w.heap.size w w' :=
  (valid_any n l sets v u w hv hu).mono fun _ _ hq => by rwa [decide_eq_true h] at hq

theorem closure_bad (n s : Int) (l : List (Int × Int)) (v : Value) (w : World) (hv : Deps w v l) (hbad : ¬ ValidP n l [s]) :
    Calls Try.prog 21 #[.int .i64 n, v, .int .i64 s] w fun e w' => e = .returned (.tuple #[.int .i64 0, .int .i64 2]) ∧ Below w.heap.size w w' := by
  have H1 := valid_no (hv.keep (below_alloc w (.cells #[.int .i64 s] 3))) (ints_one w s 3) hbad
  have H1 := Lib.hid H1
  clear hv hbad
  go_enter Try.func21, Try.ntmps21
  go_wp2_with fail
  refine H1.out.mono ?_
  rintro e w' ⟨rfl, hb⟩
  go_wp2
  go_ret2
  exact ⟨rfl, Below.tr (below_alloc _ _) hb⟩

theorem validP_nat {n : Nat} {l : List DepN} {t : List Nat} (h1 : 1 ≤ n) (h8 : n ≤ 8) (h12 : l.length ≤ 12) (hl : AllLt l (2 ^ n)) (ht : ∀ x ∈ t, x < 2 ^ n) : ValidP n (castD l) (t.map fun x : Nat => (x : Int)) := by
  refine ⟨⟨by omega, by omega, by simpa [castD] using h12⟩, fun d hd => ?_, fun x hx => ?_⟩
  · obtain ⟨e, he, rfl⟩ := List.mem_map.1 hd
    have := hl e he
    simp only [inSet_nat]
    omega
  · obtain ⟨e, he, rfl⟩ := List.mem_map.1 hx
    have := ht e he
    simp only [inSet_nat]
    omega
theorem closure_ok (n s : Nat) (l : List DepN) (v : Value) (w : World) (hv : Deps w v (castD l)) (h1 : 1 ≤ n) (h8 : n ≤ 8) (h12 : l.length ≤ 12) (hl : AllLt l (2 ^ n)) (hs : s < 2 ^ n) :
    Calls Try.prog 21 #[.int .i64 n, v, .int .i64 s] w fun e w' => e = .returned (.tuple #[.int .i64 (cl l s : Nat), .int .i64 0]) ∧ Below w.heap.size w w' := by
  obtain ⟨p1, p2, p3⟩ := pow_cast n h8
  have hgood : ValidP n (castD l) [(s : Int)] := validP_nat h1 h8 h12 hl (t := [s]) (by simpa using hs)
  have H1 := Lib.hid (valid_yes (Deps.keep hv (below_alloc w (.cells #[.int .i64 s] 3))) (ints_one w s 3) hgood)
  have Hv := Lib.hid hv
  have hl' : AllLt l 256 := fun d hd => ⟨by have := (hl d hd).1; omega, by have := (hl d hd).2; omega⟩
  have hs' : s < 256 := by omega
  obtain ⟨a, b, off, cap, hva, -⟩ := Deps.get hv
  subst hva
  clear hv hgood hl hs p1 p2 p3
  go_enter Try.func21, Try.ntmps21
  go_wp2_with fail
  refine H1.out.mono ?_
  rintro e w1 ⟨rfl, hb⟩
  have hb1 := Below.tr (below_alloc _ _) hb
  have Hv1 := Lib.hid (Deps.keep Hv.out hb1)
  clear hb
  go_wp2_with fail
  refine (closer_any _ _ _ _).mono ?_
  rintro e w2 ⟨rfl, rfl⟩
  go_wp2_with fail
  refine (closer1_any l hl' s _ hs' _ _ (cell_new _ _ _ _) (Deps.keep Hv1.out (below_alloc _ _))).mono ?_
  rintro e w3 ⟨rfl, hb2⟩
  go_wp2
  go_ret2
  exact ⟨rfl, Below.tr hb1 (Below.tr (below_alloc _ _) hb2)⟩
end Go.Proofs.Ytnidalbfmicoiaa
