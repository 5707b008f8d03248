/- The reference's overlap. -/
import Derived.Test.YtpehbffkplmfjaaSns
import Derived.Test.YtpehbffkplmfjaaEnd
namespace Go.Proofs.Ytpehbffkplmfjaa
open Go.RowKit
theorem endI_is {h : List NOp} {t : Nat} (ht : t < 7) (hc : lv h h.length (7 + t) ≠ 40) : endI h 2 t = (lv h h.length (7 + t) : Nat) := by
  rw [lv_com h ht] at hc ⊢
  unfold endI
  rw [if_neg hc]
theorem com_has {h : List NOp} (hh : VH h) {t : Nat} (ht : t < 7) (hc : lv h h.length (7 + t) ≠ 40) : ∃ i, i < h.length ∧ tT h i = t := by
  rw [lv_com h ht] at hc
  rcases en_spec h 2 t h.length hh.le with h1 | h1
  · exact absurd h1.1 hc
  · exact ⟨_, h1.1, h1.2.1⟩
set_option maxRecDepth 100000 in
set_option maxHeartbeats 4000000 in
theorem overlapR_any {h : List NOp} (hh : VH h) {a c : Nat} (ha : a < 7) (hc : c < 7) (ca : lv h h.length (7 + a) ≠ 40) (cc : lv h h.length (7 + c) ≠ 40) (B : Bool) (hB : decide (Ovl h a c) = B) (v : Value) (w : World) (hv : Ops w v (castO h)) :
    Calls Try.prog 75 #[v, .int .i64 a, .int .i64 c] w fun e w' => e = .returned (.bool B) ∧ Below w.heap.size w w' := by
  have HBa := Lib.hid (fun w' (hb : Below w.heap.size w w') => beginR_any hh (com_has hh ha ca) v w' (Ops.keep hv hb))
  have HBc := Lib.hid (fun w' (hb : Below w.heap.size w w') => beginR_any hh (com_has hh hc cc) v w' (Ops.keep hv hb))
  have HEa := Lib.hid (fun w' (hb : Below w.heap.size w w') => end_any hh (q := 2) (by omega) a v w' (Ops.keep hv hb))
  have HEc := Lib.hid (fun w' (hb : Below w.heap.size w w') => end_any hh (q := 2) (by omega) c v w' (Ops.keep hv hb))
  rw [endI_is ha ca] at HEa
  rw [endI_is hc cc] at HEc
  rw [← lv_beg h ha] at HBa
  rw [← lv_beg h hc] at HBc
  obtain ⟨p1, h1⟩ : ∃ p, p = lv h h.length a := ⟨_, rfl⟩
  obtain ⟨p2, h2⟩ : ∃ p, p = lv h h.length (7 + c) := ⟨_, rfl⟩
  obtain ⟨p3, h3⟩ : ∃ p, p = lv h h.length c := ⟨_, rfl⟩
  obtain ⟨p4, h4⟩ : ∃ p, p = lv h h.length (7 + a) := ⟨_, rfl⟩
  have HB := Lib.hid (show decide (p1 < p2 ∧ p3 < p4) = B from by rw [← hB]; exact decide_eq_decide.2 (by rw [h1, h2, h3, h4]; exact Iff.rfl))
  rw [← h1] at HBa
  rw [← h2] at HEc
  rw [← h3] at HBc
  rw [← h4] at HEa
  obtain ⟨a', c', rfl⟩ := ops_slice hv
  clear hv hh h1 h2 h3 h4 hB ca cc ha hc
  go_enter Try.func75, Try.ntmps75
  go_wp2_with fail
  refine (HBa.out w (Below.refl _ _)).mono ?_
  rintro e w1 ⟨rfl, rfl⟩
  go_wp2_with fail
  refine (HEc.out _ (Below.refl _ _)).mono ?_
  rintro e w2 ⟨rfl, hb2⟩
  have Hb2 := Lib.hid hb2
  clear hb2
  by_cases q1 : p1 < p2
  · have d1 : (p1 : Int) < (p2 : Int) := by omega
    obtain ⟨D, hD⟩ : ∃ D, D = decide (p3 < p4) := ⟨_, rfl⟩
    have d2 : decide ((p3 : Int) < (p4 : Int)) = D := by rw [hD]; exact decide_eq_decide.2 (by omega)
    have d2' : decide (p3 < p4) = D := hD.symm
    have HR2 := Lib.hid (show D = B from by rw [hD, ← HB.out]; exact decide_eq_decide.2 ⟨fun x => ⟨q1, x⟩, fun x => x.2⟩)
    clear q1 HB hD
    go_wp2_with fail
    refine (HBc.out _ Hb2.out).mono ?_
    rintro e w3 ⟨rfl, rfl⟩
    go_wp2_with fail
    refine (HEa.out _ Hb2.out).mono ?_
    rintro e w4 ⟨rfl, hb4⟩
    have Hb4 := Lib.hid (Below.tr Hb2.out hb4)
    clear hb4
    go_wp2_with fail
    go_ret
    exact ⟨by rw [← HR2.out]; rfl, Hb4.out⟩
  · have d1 : ¬ (p1 : Int) < (p2 : Int) := by omega
    have HR2 := Lib.hid (show false = B from by rw [← HB.out]; exact (decide_eq_false (fun x => q1 x.1)).symm)
    clear q1 HB
    go_wp2_with fail
    go_ret
    exact ⟨by rw [← HR2.out]; rfl, Hb2.out⟩
#print axioms overlapR_any
end Go.Proofs.Ytpehbffkplmfjaa
