/- Contracts of Critical and of the reference's Critical. -/
import Derived.Test.YtnidalbfmicoiaaWalkN
import Derived.Test.YtnidalbfmicoiaaFacts
namespace Go.Proofs.Ytnidalbfmicoiaa
open Go.RowKit

theorem closFn_closer {l : List DepN} (hl : AllLt l 256) {F pb : Nat} (hF : F ≤ 256) {v : Value} {w : World} (hp : w.cell? ⟨pb, 0, none⟩ = some v) (hv : Deps w v (castD l)) : ClosFn 94 (.pointer (some ⟨pb, 0, none⟩)) (cl l) F w :=
  fun k hk w' hb => closer1_any l hl k pb (by omega) v w' (Below.keep hb hp) (Deps.keep hv hb)

theorem crit_bad (n : Int) (l : List (Int × Int)) (v : Value) (w : World) (hv : Deps w v l) (hbad : ¬ ValidP n l []) :
    Calls Try.prog 40 #[.int .i64 n, v] w fun e w' => e = .returned (.tuple #[.slice none 0 0, .int .i64 2]) ∧ Below w.heap.size w w' := by
  have H := Lib.hid (valid_no hv (ints_nil w) hbad)
  clear hv hbad
  go_enter Try.func40, Try.ntmps40
  go_wp2_with fail
  refine H.out.mono ?_
  rintro e w1 ⟨rfl, hb1⟩
  go_wp2_with fail
  go_ret2
  exact ⟨rfl, hb1⟩
theorem crit_F {m F : Nat} {l : List DepN} (hok : Okl m l) (hF : F = 2 ^ m) (v : Value) (w : World) (hv : Deps w v (castD l)) :
    Calls Try.prog 40 #[.int .i64 m, v] w fun e w' => ∃ v', e = .returned (.tuple #[v', .int .i64 0]) ∧ Deps w' v' (castD (critTo (cl l) F)) ∧ Below w.heap.size w w' := by
  have hgood : ValidP m (castD l) [] := validP_nat hok.h1 hok.h8 hok.h12 hok.hl (t := []) (by simp)
  have H := Lib.hid (valid_yes hv (ints_nil w) hgood)
  obtain ⟨p1, p2⟩ := hok.pow
  rw [← hF] at p1 p2
  have Hlt := Lib.hid hok.lt
  have Hcl := Lib.hid (show ∀ k, k < F → cl l k < F from fun k hk => by rw [hF]; exact cl_lt_pow hok.h8 hok.hl (by omega))
  have Hv := Lib.hid hv
  have HF := Lib.hid hF
  have hm8 := hok.h8
  obtain ⟨a, b, off, cap, hva, -⟩ := Deps.get hv
  subst hva
  clear hv hgood hF
  go_enter Try.func40, Try.ntmps40
  go_wp2_with fail
  refine H.out.mono ?_
  rintro e w1 ⟨rfl, hb1⟩
  have Hb1 := Lib.hid hb1
  clear hb1 H
  go_wp2_with fail
  refine (closer_any _ _ _ _).mono ?_
  rintro e w2 ⟨rfl, hw2⟩
  have hbox := cell_new w1 #[.slice a (castD l).length cap] 28 0
  have hb2 := below_alloc w1 (.cells #[.slice a (castD l).length cap] 28)
  rw [hw2] at hbox hb2
  have Hbox := Lib.hid hbox
  have Hb2 := Lib.hid (Below.tr Hb1.out hb2)
  clear hw2 hbox hb2
  go_wp2_with fail
  refine (critical_any _ (cl l) m F hm8 HF.out p1 p2 Hcl.out _ (closFn_closer Hlt.out p1 Hbox.out (Deps.keep Hv.out Hb2.out))).mono ?_
  rintro e w3 ⟨v', rfl, hd, hb3⟩
  go_wp2_with fail
  go_ret2
  exact ⟨_, rfl, hd, Below.tr Hb2.out hb3⟩

set_option maxRecDepth 100000 in
theorem critR_F {m F : Nat} {l : List DepN} (hok : Okl m l) (hF : F = 2 ^ m) (v : Value) (w : World) (hv : Deps w v (castD l)) :
    Calls Try.prog 45 #[.int .i64 m, v] w fun e w' => ∃ v', e = .returned v' ∧ Deps w' v' (castD (critTo (cl l) F)) ∧ Below w.heap.size w w' := by
  obtain ⟨p1, p2⟩ := hok.pow
  have pc : (2 : Int) ^ m = (F : Int) := by rw [hF]; simp
  rw [← hF] at p1 p2
  have Hlt := Lib.hid hok.lt
  have Hcl := Lib.hid (show ∀ k, k < F → cl l k < F from fun k hk => by rw [hF]; exact cl_lt_pow hok.h8 hok.hl (by omega))
  have Hv := Lib.hid hv
  have HF := Lib.hid hF
  have hm8 := hok.h8
  obtain ⟨a, b, off, cap, hva, -⟩ := Deps.get hv
  subst hva
  clear hv hF
  go_enter Try.func45, Try.ntmps45
  go_wp2_with fail
  go_loopw [5, 9] (fun o i wr => ∃ k : Nat, i = .int .i64 k ∧ k ≤ F ∧ Below w.heap.size w wr ∧ wr.ownsRow w.heap.size 3 1 o k (((List.range k).map fun k => ((cl l k : Nat) : Int)).map (Value.int .i64))) (fun _ i _ => F - (intOf i).toNat)
  case atStart => exact ⟨0, rfl, Nat.zero_le _, Below.refl _ _, World.ownsRow_nil _ _ _ _⟩
  case round =>
    obtain ⟨k, rfl, hk, hb, hown⟩ := hrel
    have Hb := Lib.hid hb
    have Hown := Lib.hid hown
    clear hb hown
    by_cases hlt : k < F
    · go_wp2_with fail
      refine (closureR_any l Hlt.out k (by omega) _ _ (Deps.keep Hv.out Hb.out)).mono ?_
      rintro e w2 ⟨rfl, hb2⟩
      have Hb2 := Lib.hid (Below.tr Hb.out hb2)
      have Hown2 := Lib.hid (owns_keep Hown.out hb2)
      clear hb2
      go_wp2_with (at_builtin; refine append_own rfl (.tmp 12) (.tmp 16) 56 rfl elem56 rfl (World.ownsRow.alloc Hown2.out _) [.int .i64 (cl l k : Nat)] rfl rfl (by intro j u hj; go_simp) (by intro u hu; simp at hu; subst hu; rfl) (by omega) (by simp; have := Hb2.out.size; omega) ?_)
      intro v' w6 hown6 hb6 _
      have HB := Lib.hid ((Hb2.out.alloc Hb2.out.size _).trans hb6)
      have HO := Lib.hid (show w6.ownsRow w.heap.size 3 1 v' (k + 1) (((List.range (k + 1)).map fun k => ((cl l k : Nat) : Int)).map (Value.int .i64)) by
        rw [List.range_succ]; simpa using hown6)
      clear hown6 hb6
      go_wp2_with fail
      go_roundw
      case rel => exact ⟨k + 1, by go_num, by omega, HB.out, HO.out⟩
      case measure => simp [intOf]; omega
    · obtain rfl : k = F := by omega
      have hi := owns_rd Hown.out
      have HI := Lib.hid (show Ints wr _ ((List.range k).map fun k => ((cl l k : Nat) : Int)) by unfold Ints; simpa using hi)
      clear hi
      go_wp2_with fail
      refine (criticalR_any (cl l) m k hm8 HF.out p1 p2 Hcl.out _ _ HI.out).mono ?_
      rintro e w3 ⟨v', rfl, hd, hb3⟩
      go_wp2_with fail
      go_ret
      exact ⟨_, rfl, hd, Below.tr Hb.out hb3⟩
end Go.Proofs.Ytnidalbfmicoiaa
