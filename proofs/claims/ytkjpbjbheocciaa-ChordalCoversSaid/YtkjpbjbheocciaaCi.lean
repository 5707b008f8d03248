/- Contracts of isChordal and of Colours' refusals; Colours itself, given what the search returns. -/
import Derived.Test.YtkjpbjbheocciaaCh
namespace Go.Proofs.Ytkjpbjbheocciaa
open Go.RowKit

theorem isChordal_b {g : List Nat} (hg : Gr g) (b : Bool) (hb : decide (Chordal g) = b) (v : Value) (w : World) (hv : Ints w v (castN g)) :
    Calls Try.prog 80 #[v] w fun e w' => e = .returned (.bool b) ∧ Below w.heap.size w w' := by
  have H := Lib.hid (order_any hg v w hv)
  have Hb := Lib.hid hb
  clear hv hb
  go_enter Try.func80, Try.ntmps80
  go_wp2_with fail
  refine H.out.mono ?_
  rintro e w1 ⟨v1, rfl, hi, hb⟩
  rw [Hb.out]
  have Hb1 := Lib.hid hb
  clear hi hb
  go_wp2_with fail
  go_ret
  exact ⟨rfl, Hb1.out⟩
theorem coloursE_bad {l : List Int} (h : ¬ GrI l) (v : Value) (w : World) (hv : Ints w v l) :
    Calls Try.prog 31 #[v] w fun e w' => e = .returned (.tuple #[.slice none 0 0, .int .i64 2]) ∧ w = w' := by
  have H := Lib.hid (valid_b (decide_eq_false h) v w hv)
  clear h hv
  go_enter Try.func31, Try.ntmps31
  go_wp2_with fail
  refine H.out.mono ?_
  rintro e w1 ⟨rfl, rfl⟩
  go_wp2_with fail
  go_ret2
  exact ⟨rfl, rfl⟩
theorem coloursE_no {g : List Nat} (hg : Gr g) (hc : ¬ Chordal g) (v : Value) (w : World) (hv : Ints w v (castN g)) :
    Calls Try.prog 31 #[v] w fun e w' => e = .returned (.tuple #[.slice none 0 0, .int .i64 7]) ∧ Below w.heap.size w w' := by
  have H := Lib.hid (valid_b (decide_eq_true (grI_of hg)) v w hv)
  have H2 := Lib.hid (isChordal_b hg false (decide_eq_false hc) v w hv)
  clear hv hc hg
  go_enter Try.func31, Try.ntmps31
  go_wp2_with fail
  refine H.out.mono ?_
  rintro e w1 ⟨rfl, rfl⟩
  go_wp2_with fail
  refine H2.out.mono ?_
  rintro e w2 ⟨rfl, hb2⟩
  have Hb2 := Lib.hid hb2
  clear hb2
  go_wp2_with fail
  go_ret2
  exact ⟨rfl, Hb2.out⟩
/-- the search's contract at the start -/
def ColoursAt (g : List Nat) : Prop := ∀ (v : Value) (w : World), Ints w v (castN g) → Calls Try.prog 81 #[v, .slice none 0 0, .int .i64 (om g : Nat)] w (HolePost (cf g (om g) g.length []) w)
set_option maxRecDepth 100000 in
theorem coloursE_any {g : List Nat} (hg : Gr g) (hc : Chordal g) {r : List Nat} (hr : cf g (om g) g.length [] = some r) (hs : ColoursAt g) (v : Value) (w : World) (hv : Ints w v (castN g)) :
    Calls Try.prog 31 #[v] w fun e w' => ∃ v', e = .returned (.tuple #[v', .int .i64 0]) ∧ Ints w' v' (castN r) ∧ Below w.heap.size w w' := by
  have H := Lib.hid (valid_b (decide_eq_true (grI_of hg)) v w hv)
  have H2 := Lib.hid (isChordal_b hg true (decide_eq_true hc) v w hv)
  have hb4 : bestTo (isC g) (2 ^ g.length) < 4096 := lt63 (om_lt g) hg.le
  have Hbest := Lib.hid (fun w hv => best_clique hg v w hv)
  obtain ⟨B, hB⟩ : ∃ B, B = bestTo (isC g) (2 ^ g.length) := ⟨_, rfl⟩
  rw [← hB] at Hbest hb4
  have Hs := Lib.hid hs
  unfold ColoursAt at Hs
  rw [hr] at Hs
  obtain ⟨K, hK⟩ : ∃ K, K = om g := ⟨_, rfl⟩
  rw [← hK] at Hs
  have Ho := Lib.hid (fun w => (by have := ones_any B hb4 w; rwa [show pop B = K by rw [hK, om, hB]] at this : Calls Try.prog 82 #[.int .u64 B] w fun e w' => e = .returned (.int .i64 (K : Nat)) ∧ w = w'))
  have Hv := Lib.hid hv
  clear hv hc hg hB hK hr hs
  go_enter Try.func31, Try.ntmps31
  go_wp2_with fail
  refine H.out.mono ?_
  rintro e w1 ⟨rfl, rfl⟩
  go_wp2_with fail
  refine H2.out.mono ?_
  rintro e w2 ⟨rfl, hb2⟩
  have Hb2 := Lib.hid hb2
  clear hb2
  go_wp2_with fail
  refine (Hbest.out _ (Ints.keep Hv.out Hb2.out)).mono ?_
  rintro e w' ⟨rfl, rfl⟩
  go_wp2_with fail
  refine (Ho.out _).mono ?_
  rintro e w' ⟨rfl, rfl⟩
  go_wp2_with fail
  refine (Hs.out _ _ (Ints.keep Hv.out Hb2.out)).mono ?_
  rintro e w5 ⟨v5, rfl, hr5, hb5⟩
  obtain ⟨⟨ra, rn, rc, rfl⟩, hri⟩ := hr5
  have Hri := Lib.hid hri
  have Hb5 := Lib.hid (Below.tr Hb2.out hb5)
  clear hri hb5
  go_wp2_with fail
  go_ret2
  exact ⟨_, rfl, Hri.out, Hb5.out⟩
#print axioms coloursE_any
end Go.Proofs.Ytkjpbjbheocciaa
