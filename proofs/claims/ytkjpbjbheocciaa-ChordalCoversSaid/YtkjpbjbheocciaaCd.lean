/- Contracts of the reference's Colours and of the law's is. -/
import Derived.Test.YtkjpbjbheocciaaCc
namespace Go.Proofs.Ytkjpbjbheocciaa
open Go.RowKit

def om (g : List Nat) : Nat := pop (bestTo (isC g) (2 ^ g.length))
theorem om_lt (g : List Nat) : bestTo (isC g) (2 ^ g.length) < 2 ^ g.length := bestTo_lt _ _ (Nat.two_pow_pos _)
theorem om_le {g : List Nat} (hg : Gr g) : om g ≤ g.length := by
  unfold om
  rw [pop_eq (om_lt g) (by have := hg.le; omega)]
  exact cnt_le _ _
set_option maxHeartbeats 1000000 in
theorem coloursR_any {g : List Nat} (hg : Gr g) {r : List Nat} (hr : cf g (om g) g.length [] = some r) (v : Value) (w : World) (hv : Ints w v (castN g)) :
    Calls Try.prog 36 #[v] w fun e w' => ∃ v', e = .returned v' ∧ Ints w' v' (castN r) ∧ Below w.heap.size w w' := by
  have Hv := Lib.hid hv
  have HG := Lib.hid hg
  have hg12 := hg.le
  have hom := om_le hg
  have hb4 : bestTo (isC g) (2 ^ g.length) < 4096 := lt63 (om_lt g) hg12
  obtain ⟨B, hB⟩ : ∃ B, B = bestTo (isC g) (2 ^ g.length) := ⟨_, rfl⟩
  have Hcl := Lib.hid (hB ▸ cliqueR_best hg v w hv : Calls Try.prog 34 #[v] w fun e w' => e = .returned (.int .i64 (B : Nat)) ∧ ∃ q, w' = w.drewN q)
  rw [← hB] at hb4
  obtain ⟨K, hK⟩ : ∃ K, K = om g := ⟨_, rfl⟩
  have Hsz := Lib.hid (fun w => (by have := size_any B hb4 w; rwa [show pop B = K by rw [hK, om, hB]] at this : Calls Try.prog 83 #[.int .i64 B] w fun e w' => e = .returned (.int .i64 (K : Nat)) ∧ w = w'))
  rw [← hK] at hr hom
  have Hr := Lib.hid hr
  clear hv hg hB hK hr
  go_enter Try.func36, Try.ntmps36
  go_wp2_with fail
  refine Hcl.out.mono ?_
  rintro e w1 ⟨rfl, q1, hw1⟩
  have Hb1 := Lib.hid (show Below w.heap.size w w1 by rw [hw1]; exact bdrewN (Below.refl _ _) _)
  clear hw1
  go_wp2_with fail
  refine (Hsz.out _).mono ?_
  rintro e w' ⟨rfl, rfl⟩
  go_wp2_with fail
  go_loopw [3] (fun s wr => s = .int .i64 K ∧ wr = w1) (fun _ _ => 0)
  case atStart => exact ⟨rfl, rfl⟩
  case round =>
    obtain ⟨rfl, hwr⟩ := hrel
    subst hwr
    go_wp2_with fail
    refine (colouredR_any HG.out (by omega) g.length [] _ _ _ (by simp) (Ints.keep Hv.out Hb1.out) (ints_nil _)).mono ?_
    rw [Hr.out]
    rintro e w5 ⟨v5, rfl, hr5, hb5⟩
    obtain ⟨⟨ra, rn, rc, rfl⟩, hri⟩ := hr5
    have Hri := Lib.hid hri
    have Hb5 := Lib.hid (Below.tr Hb1.out hb5)
    have hneS := fun w' => run_neq_slice_nil_any (P := Try.prog) w' 22 3 (some ra) rn rc 0 0 Try.underlying22
    clear hri hb5
    go_wp2_with fail
    go_ret
    exact ⟨_, rfl, Hri.out, Hb5.out⟩
theorem isR_any {g : List Nat} (hg : Gr g) (b : Bool) (hb : decide (Chordal g) = b) (v : Value) (w : World) (hv : Ints w v (castN g)) :
    Calls Try.prog 35 #[v] w fun e w' => e = .returned (.bool b) ∧ Below w.heap.size w w' := by
  have H := Lib.hid (orderR_any hg v w hv)
  have Hb := Lib.hid hb
  clear hv hb
  cases b
  · go_enter Try.func35, Try.ntmps35
    go_wp2_with fail
    refine H.out.mono ?_
    rintro e w4 ⟨a4, rfl, ha4, hb4⟩
    rw [if_neg (of_decide_eq_false Hb.out)]
    go_wp2_with fail
    go_ret
    exact ⟨rfl, hb4⟩
  · go_enter Try.func35, Try.ntmps35
    go_wp2_with fail
    refine H.out.mono ?_
    rintro e w4 ⟨a4, rfl, ha4, hb4⟩
    rw [if_pos (of_decide_eq_true Hb.out)]
    go_wp2_with fail
    go_ret
    exact ⟨rfl, hb4⟩
#print axioms coloursR_any
#print axioms isR_any
end Go.Proofs.Ytkjpbjbheocciaa
