/- Contract of the reference's Hole. -/
import Derived.Test.YtkjpbjbheocciaaHe
namespace Go.Proofs.Ytkjpbjbheocciaa
open Go.RowKit

set_option maxRecDepth 100000 in
set_option maxHeartbeats 4000000 in
theorem holeR_any {g : List Nat} (hg : Gr g) (v : Value) (w : World) (hv : Ints w v (castN g)) :
    Calls Try.prog 28 #[v] w (HoleE g w) := by
  have hgl := castN_length g
  obtain ⟨a, c, rfl⟩ := ints_slice hv
  rw [hgl] at hv ⊢
  have hg12 := hg.le
  have Hv := Lib.hid hv
  have HG := Lib.hid hg
  have hneN := fun w' => run_neq_slice_nil_any (P := Try.prog) w' 22 3 none 0 0 0 0 Try.underlying22
  clear hv hg hgl
  go_enter Try.func28, Try.ntmps28
  go_wp2_with fail
  go_loopw [4] (fun i wr => ∃ s : Nat, i = .int .i64 s ∧ 4 ≤ s ∧ s ≤ 13 ∧ (s = 4 ∨ s ≤ g.length + 1) ∧ Below w.heap.size w wr ∧ ft (FO g) s = none) (fun i _ => 14 - (intOf i).toNat)
  case atStart => exact ⟨4, rfl, by omega, by omega, .inl rfl, Below.refl _ _, FO_four g⟩
  case round =>
    obtain ⟨s, rfl, hs4, hs13, hs, hb, hin⟩ := hrel
    have Hb := Lib.hid hb
    have Hin := Lib.hid hin
    have HS := Lib.hid hs
    clear hb hin hs
    by_cases hlt : s ≤ g.length
    · go_wp2_with fail
      obtain ⟨wo, rfl⟩ : ∃ wo : World, wo = wr := ⟨_, rfl⟩
      go_loopw [15] (fun i wr => ∃ x : Nat, i = .int .i64 x ∧ x ≤ g.length ∧ Below wo.heap.size wo wr ∧ ft (FI g s) x = none) (fun i _ => g.length - (intOf i).toNat)
      case atStart => exact ⟨0, rfl, Nat.zero_le _, Below.refl _ _, rfl⟩
      case round =>
        obtain ⟨x, rfl, hx, hbx, hinx⟩ := hrel
        have Hbx := Lib.hid (Below.tr Hb.out hbx)
        have Hbo := Lib.hid hbx
        have Hinx := Lib.hid hinx
        clear hbx hinx
        by_cases hltx : x < g.length
        · have H1 := Lib.hid (hw_one (k := s) hs4 hltx)
          have HFx := Lib.hid (show FI g s x = hr g s (s - 1) [x] from (hr_eq HG.out hs4 (s - 1) [x] (by simp; omega) (by simp) H1.out).symm)
          have Hl1 := Lib.hid (show ∀ y ∈ [x], y < g.length from fun y hy => by rw [List.mem_singleton.1 hy]; exact hltx)
          go_wp2_with fail
          refine (holed_any HG.out hs4 (by omega) (s - 1) [x] _ _ _ (by simp; omega) (by simp) Hl1.out (Ints.keep Hv.out (Below.tr Hbx.out (below_alloc _ _))) (ints_one _ _ _) ⟨_, _, _, rfl⟩).mono ?_
          rintro e w5 ⟨v5, rfl, hr5, hb5⟩
          have Hb5 := Lib.hid (Below.tr (Below.tr Hbx.out (below_alloc _ _)) hb5)
          have Hb5o := Lib.hid (Below.tr (Below.tr Hbo.out (below_alloc _ _)) hb5)
          clear hb5
          cases hres : hr g s (s - 1) [x] with
          | none =>
            rw [hres] at hr5
            have h5 : v5 = .slice none 0 0 := hr5
            subst h5
            have R := Lib.hid (show ft (FI g s) (x + 1) = none by rw [ft_none Hinx.out, HFx.out, hres])
            clear hres hr5
            go_wp2_with fail
            go_roundw
            case rel => exact ⟨x + 1, by go_num, by omega, Hb5o.out, R.out⟩
            case measure => simp [intOf]; omega
          | some r =>
            rw [hres] at hr5
            obtain ⟨⟨ra, rn, rc, rfl⟩, hri⟩ := hr5
            have Hri := Lib.hid hri
            have R := Lib.hid (show hole g = some r by
              rw [hole_FO]
              refine ft_hit Hin.out ?_ (by omega)
              rw [FO_ge hs4]
              exact ft_hit Hinx.out (by rw [HFx.out, hres]) hltx)
            have hneS := fun w' => run_neq_slice_nil_any (P := Try.prog) w' 22 3 (some ra) rn rc 0 0 Try.underlying22
            clear hres hri
            go_wp2_with fail
            go_ret2
            exact ⟨_, by rw [R.out]; rfl, by rw [R.out]; exact Hri.out, Hb5.out⟩
        · obtain rfl : x = g.length := by omega
          have R := Lib.hid (show ft (FO g) (s + 1) = none by rw [ft_none Hin.out, FO_ge hs4]; exact Hinx.out)
          go_wp2_with fail
          go_roundw
          case rel => exact ⟨s + 1, by go_num, by omega, by omega, .inr (by omega), Hbx.out, R.out⟩
          case measure => simp [intOf]; omega
    · have R := Lib.hid (show hole g = none by rw [hole_FO]; exact ft_le Hin.out (by omega))
      go_wp2_with fail
      go_ret2
      exact ⟨_, by rw [R.out]; rfl, by rw [R.out]; exact ints_nil _, Hb.out⟩
#print axioms holeR_any
end Go.Proofs.Ytkjpbjbheocciaa
