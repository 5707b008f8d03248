/- ChordalCovers for every input. -/
import Derived.Test.YtkjpbjbheocciaaVf
import Derived.Test.YtkjpbjbheocciaaCj
namespace Go.Proofs.Ytkjpbjbheocciaa
open Go.RowKit

def srtN (l : List Nat) : List Nat := l.mergeSort fun x y => decide (x ≤ y)
theorem srt_cast (l : List Nat) : srt (castN l) = castN (srtN l) := by
  unfold srt srtN castN
  exact (List.map_mergeSort (fun a _ b _ => by rw [Bool.eq_iff_iff, decide_eq_true_iff, decide_eq_true_iff]; omega)).symm
theorem srtN_perm (l : List Nat) : (srtN l).Perm l := List.mergeSort_perm l _
theorem srtN_le (l : List Nat) : (srtN l).Pairwise (· ≤ ·) := by
  have := List.pairwise_mergeSort (le := fun x y : Nat => decide (x ≤ y)) (fun a b c h1 h2 => by rw [decide_eq_true_iff] at *; omega) (fun a b => by rw [Bool.or_eq_true, decide_eq_true_iff, decide_eq_true_iff]; omega) l
  exact this.imp fun h => of_decide_eq_true h
theorem pw_at {l : List Nat} {R : Nat → Nat → Prop} (h : l.Pairwise R) {i j : Nat} (hij : i < j) (hj : j < l.length) : R (at' l i) (at' l j) := by
  have := List.pairwise_iff_getElem.1 h i j (by omega) hj hij
  rwa [at_get, at_get] at this
theorem isCover_of {g L : List Nat} (hp : Parts L (2 ^ g.length - 1)) (hc : ∀ c ∈ L, c < 2 ^ g.length ∧ Cliq g c) : IsCover g (srtN L) := by
  have hmem : ∀ c, c ∈ srtN L ↔ c ∈ L := fun c => (srtN_perm L).mem_iff
  have hpw : (srtN L).Pairwise (fun a b => a &&& b = 0) := ((srtN_perm L).pairwise_iff (fun {a b} h => by rw [Nat.and_comm]; exact h)).2 hp.2.1
  have hin : ∀ i, i < (srtN L).length → at' (srtN L) i ∈ L := fun i hi => (hmem _).1 (mem_at.2 ⟨i, hi, rfl⟩)
  refine ⟨fun i hi => ⟨⟨?_, (hc _ (hin i hi)).1⟩, (hc _ (hin i hi)).2, ?_, fun h0 => ?_⟩, ?_⟩
  · have := hp.1 _ (hin i hi); omega
  · refine and_zero_iff.2 fun b hb => ?_
    obtain ⟨c, h1, h2⟩ := orTo_bit.1 hb.1
    obtain ⟨j, hj, rfl⟩ := mem_at.1 h1
    rw [List.length_take] at hj
    rw [at_take (by omega)] at h2
    exact and_zero_iff.1 (pw_at hpw (show j < i by omega) hi) b ⟨h2, hb.2⟩
  · have h1 := pw_at (srtN_le L) (show i - 1 < i by omega) hi
    have h2 := pw_at hpw (show i - 1 < i by omega) hi
    refine Nat.lt_of_le_of_ne h1 fun e => ?_
    rw [e, Nat.and_self] at h2
    exact hp.1 _ (hin i hi) h2
  · apply Nat.eq_of_testBit_eq
    intro b
    rw [Bool.eq_iff_iff, orTo_bit, hp.2.2, List.take_length]
    exact ⟨fun ⟨c, h1, h2⟩ => ⟨c, (hmem c).1 h1, h2⟩, fun ⟨c, h1, h2⟩ => ⟨c, (hmem c).2 h1, h2⟩⟩
set_option maxRecDepth 100000 in
set_option maxHeartbeats 2000000 in
theorem covers_bad {l : List Int} (h : ¬ GrI l) (v : Value) (w : World) (hv : Ints w v l) :
    Calls Try.prog 6 #[v] w fun e w' => e = .returned (.bool true) ∧ Below w.heap.size w w' := by
  have V0 := Lib.hid hv
  have H := Lib.hid h
  have H14 := Lib.hid (show ¬ GrI (l.take 14) from fun hh => h (grI_take.1 hh))
  clear h
  clear hv
  go_enter Try.func6, Try.ntmps6
  go_wp2_with fail
  refine (of_any _ _ _ V0.out).mono ?_
  rintro e w1 ⟨v1, rfl, hd1, hb1⟩
  have Hd1 := Lib.hid hd1
  clear hd1
  have V_1 := Lib.hid (Ints.keep V0.out hb1)
  clear V0
  have Hb1 := Lib.hid hb1
  clear hb1
  go_wp2_with fail
  refine (independent_bad H14.out _ _ (OwnInts.ints Hd1.out)).mono ?_
  rintro e w' ⟨rfl, rfl⟩
  go_wp2_with fail
  refine (of_any _ _ _ V_1.out).mono ?_
  rintro e w2 ⟨v2, rfl, hd2, hb2⟩
  have Hd2 := Lib.hid hd2
  clear hd2
  have V_2 := Lib.hid (Ints.keep V_1.out hb2)
  clear V_1
  have Hb2 := Lib.hid (Below.tr Hb1.out hb2)
  clear hb2 Hb1
  go_wp2_with fail
  refine (coverE_bad H14.out _ _ (OwnInts.ints Hd2.out)).mono ?_
  rintro e w' ⟨rfl, rfl⟩
  go_wp2_with fail
  refine (validR_b (decide_eq_false H.out) _ _ V_2.out).mono ?_
  rintro e w' ⟨rfl, rfl⟩
  go_wp2_with fail
  refine (awake_any _).mono ?_
  rintro e w3 ⟨rfl, hb3⟩
  have V_3 := Lib.hid (Ints.keep V_2.out hb3)
  clear V_2
  have Hb3 := Lib.hid (Below.tr Hb2.out hb3)
  clear hb3 Hb2
  go_wp2_with fail
  go_ret
  exact ⟨rfl, Hb3.out⟩
set_option maxRecDepth 100000 in
set_option maxHeartbeats 2000000 in
theorem covers_no {g : List Nat} (hg : Gr g) (hc : ¬ Chordal g) (v : Value) (w : World) (hv : Ints w v (castN g)) :
    Calls Try.prog 6 #[v] w fun e w' => e = .returned (.bool true) ∧ Below w.heap.size w w' := by
  have V0 := Lib.hid hv
  have HG := Lib.hid hg
  have H14 := Lib.hid (grI_take_eq (grI_of hg))
  have Hin := Lib.hid (fun v w hv => independent_any hg v w hv)
  have HiR := Lib.hid (fun v w hv => indepR_best hg v w hv)
  generalize bestTo (isI g) (2 ^ g.length) = A at *
  have qA : ((A : Int) != (A : Int)) = false := by simp
  have HC := Lib.hid hc
  clear hc hg
  clear hv
  go_enter Try.func6, Try.ntmps6
  go_wp2_with fail
  refine (of_any _ _ _ V0.out).mono ?_
  rintro e w1 ⟨v1, rfl, hd1, hb1⟩
  rw [H14.out] at hd1
  have Hd1 := Lib.hid hd1
  clear hd1
  have V_1 := Lib.hid (Ints.keep V0.out hb1)
  clear V0
  have Hb1 := Lib.hid hb1
  clear hb1
  go_wp2_with fail
  refine (Hin.out _ _ (OwnInts.ints Hd1.out)).mono ?_
  rintro e w' ⟨rfl, rfl⟩
  go_wp2_with fail
  refine (of_any _ _ _ V_1.out).mono ?_
  rintro e w2 ⟨v2, rfl, hd2, hb2⟩
  rw [H14.out] at hd2
  have Hd2 := Lib.hid hd2
  clear hd2
  have V_2 := Lib.hid (Ints.keep V_1.out hb2)
  clear V_1
  have Hb2 := Lib.hid (Below.tr Hb1.out hb2)
  clear hb2 Hb1
  go_wp2_with fail
  refine (coverE_no HG.out HC.out _ _ (OwnInts.ints Hd2.out)).mono ?_
  rintro e w3 ⟨rfl, hb3⟩
  have V_3 := Lib.hid (Ints.keep V_2.out hb3)
  clear V_2
  have Hb3 := Lib.hid (Below.tr Hb2.out hb3)
  clear hb3 Hb2
  go_wp2_with fail
  refine (validR_b (decide_eq_true (grI_of HG.out)) _ _ V_3.out).mono ?_
  rintro e w' ⟨rfl, rfl⟩
  go_wp2_with fail
  refine (HiR.out _ _ V_3.out).mono ?_
  rintro e w4 ⟨rfl, q4, hw4⟩
  have hb4 : Below w3.heap.size w3 w4 := by rw [hw4]; exact bdrewN (Below.refl _ _) _
  clear hw4
  have V_4 := Lib.hid (Ints.keep V_3.out hb4)
  clear V_3
  have Hb4 := Lib.hid (Below.tr Hb3.out hb4)
  clear hb4 Hb3
  go_wp2_with fail
  refine (isR_any HG.out false (decide_eq_false HC.out) _ _ V_4.out).mono ?_
  rintro e w5 ⟨rfl, hb5⟩
  have V_5 := Lib.hid (Ints.keep V_4.out hb5)
  clear V_4
  have Hb5 := Lib.hid (Below.tr Hb4.out hb5)
  clear hb5 Hb4
  go_wp2_with fail
  refine (awake_any _).mono ?_
  rintro e w6 ⟨rfl, hb6⟩
  have V_6 := Lib.hid (Ints.keep V_5.out hb6)
  clear V_5
  have Hb6 := Lib.hid (Below.tr Hb5.out hb6)
  clear hb6 Hb5
  go_wp2_with fail
  go_ret
  exact ⟨rfl, Hb6.out⟩
set_option maxRecDepth 100000 in
set_option maxHeartbeats 2000000 in
theorem covers_yes {g : List Nat} (hg : Gr g) (hc : Chordal g) (v : Value) (w : World) (hv : Ints w v (castN g)) :
    Calls Try.prog 6 #[v] w fun e w' => e = .returned (.bool true) ∧ Below w.heap.size w w' := by
  have V0 := Lib.hid hv
  have HG := Lib.hid hg
  have H14 := Lib.hid (grI_take_eq (grI_of hg))
  have Hin := Lib.hid (fun v w hv => independent_any hg v w hv)
  have HiR := Lib.hid (fun v w hv => indepR_best hg v w hv)
  generalize bestTo (isI g) (2 ^ g.length) = A at *
  have qA : ((A : Int) != (A : Int)) = false := by simp
  have HC := Lib.hid hc
  have HL := Lib.hid (show (srtN (cov g)).length = al g by rw [(srtN_perm _).length_eq, cov_al hg hc])
  have HS := Lib.hid (srt_cast (cov g))
  have HX := Lib.hid (isCover_of (cov_parts hg hc) (cov_cl hg hc))
  have HF := Lib.hid (fun m h => few_al (m := m) hg hc h)
  clear hc hg
  clear hv
  go_enter Try.func6, Try.ntmps6
  go_wp2_with fail
  refine (of_any _ _ _ V0.out).mono ?_
  rintro e w1 ⟨v1, rfl, hd1, hb1⟩
  rw [H14.out] at hd1
  have Hd1 := Lib.hid hd1
  clear hd1
  have V_1 := Lib.hid (Ints.keep V0.out hb1)
  clear V0
  have Hb1 := Lib.hid hb1
  clear hb1
  go_wp2_with fail
  refine (Hin.out _ _ (OwnInts.ints Hd1.out)).mono ?_
  rintro e w' ⟨rfl, rfl⟩
  go_wp2_with fail
  refine (of_any _ _ _ V_1.out).mono ?_
  rintro e w2 ⟨v2, rfl, hd2, hb2⟩
  rw [H14.out] at hd2
  have Hd2 := Lib.hid hd2
  clear hd2
  have V_2 := Lib.hid (Ints.keep V_1.out hb2)
  clear V_1
  have Hb2 := Lib.hid (Below.tr Hb1.out hb2)
  clear hb2 Hb1
  go_wp2_with fail
  refine (coverE_any HG.out HC.out _ _ (OwnInts.ints Hd2.out)).mono ?_
  rintro e w3 ⟨c3, rfl, hc3, hb3⟩
  rw [HS.out] at hc3
  have hc3 := OwnInts.ints hc3
  obtain ⟨ca, cc, rfl⟩ := ints_slice hc3
  rw [castN_length] at hc3 ⊢
  have Hc3 := Lib.hid hc3
  clear hc3
  have V_3 := Lib.hid (Ints.keep V_2.out hb3)
  clear V_2
  have Hb3 := Lib.hid (Below.tr Hb2.out hb3)
  clear hb3 Hb2
  go_wp2_with fail
  refine (validR_b (decide_eq_true (grI_of HG.out)) _ _ V_3.out).mono ?_
  rintro e w' ⟨rfl, rfl⟩
  go_wp2_with fail
  refine (HiR.out _ _ V_3.out).mono ?_
  rintro e w4 ⟨rfl, q4, hw4⟩
  have hb4 : Below w3.heap.size w3 w4 := by rw [hw4]; exact bdrewN (Below.refl _ _) _
  clear hw4
  have V_4 := Lib.hid (Ints.keep V_3.out hb4)
  clear V_3
  have C_4 := Lib.hid (Ints.keep Hc3.out hb4)
  clear Hc3
  have Hb4 := Lib.hid (Below.tr Hb3.out hb4)
  clear hb4 Hb3
  go_wp2_with fail
  refine (isR_any HG.out true (decide_eq_true HC.out) _ _ V_4.out).mono ?_
  rintro e w5 ⟨rfl, hb5⟩
  have V_5 := Lib.hid (Ints.keep V_4.out hb5)
  clear V_4
  have C_5 := Lib.hid (Ints.keep C_4.out hb5)
  clear C_4
  have Hb5 := Lib.hid (Below.tr Hb4.out hb5)
  clear hb5 Hb4
  go_wp2_with fail
  refine (coversR_any HG.out HX.out _ _ _ V_5.out C_5.out).mono ?_
  rintro e w6 ⟨rfl, q6, hw6⟩
  have hb6 : Below w5.heap.size w5 w6 := by rw [hw6]; exact bdrewN (Below.refl _ _) _
  clear hw6
  have V_6 := Lib.hid (Ints.keep V_5.out hb6)
  clear V_5
  have C_6 := Lib.hid (Ints.keep C_5.out hb6)
  clear C_5
  have Hb6 := Lib.hid (Below.tr Hb5.out hb6)
  clear hb6 Hb5
  go_wp2_with fail
  refine (coverR_any HG.out _ _ V_6.out).mono ?_
  rintro e w7 ⟨⟨m7, rfl, hm7⟩, hb7⟩
  have qm : (((srtN (cov g)).length : Int) == (m7 : Int)) = true := by rw [beq_iff_eq, HL.out, HF.out _ hm7]
  clear hm7
  have V_7 := Lib.hid (Ints.keep V_6.out hb7)
  clear V_6
  have Hb7 := Lib.hid (Below.tr Hb6.out hb7)
  clear hb7 Hb6
  go_wp2_with fail
  refine (awake_any _).mono ?_
  rintro e w8 ⟨rfl, hb8⟩
  have V_8 := Lib.hid (Ints.keep V_7.out hb8)
  clear V_7
  have Hb8 := Lib.hid (Below.tr Hb7.out hb8)
  clear hb8 Hb7
  go_wp2_with fail
  go_ret
  exact ⟨rfl, Hb8.out⟩
theorem covers_any (l : List Int) (v : Value) (w : World) (hv : Ints w v l) :
    Calls Try.prog 6 #[v] w fun e w' => e = .returned (.bool true) ∧ Below w.heap.size w w' := by
  by_cases h : GrI l
  · obtain ⟨g, hg, rfl⟩ := grI_nat h
    by_cases hc : Chordal g
    · exact covers_yes hg hc v w hv
    · exact covers_no hg hc v w hv
  · exact covers_bad h v w hv
#print axioms covers_any
end Go.Proofs.Ytkjpbjbheocciaa
